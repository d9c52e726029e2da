/-
  A region that draws its order, whose operations read, or make memory and write nothing that was there: one plan serves every order (no program is named here). Conditions: the plan is one that the region's edges allow (a Bool, reckoned), each operation that reads yields one value in every later world, and an operation that makes memory comes up alone.
-/
import Derived.Test.YteljklkgdejhpaaGreatDoorQL1
import Derived.OrdersHeld
import Derived.Deep.RegionHeld3
import Derived.OwnWalk
import Derived.Deep.MidRow
import Derived.Laws.CopyOwn
import Derived.Lib.SliceRun
import Derived.Laws.ResultCell
import Derived.Test.YteljklkgdejhpaaGreatDoorRows
import Derived.WalkKit
import Derived.WalkSpells
import Derived.Lib.Hide
import Derived.LoopTactic
import Derived.LoopN
import Derived.Lib.AppendZeros
import Derived.Maps.AppendAt
import Derived.RangeFuncBox
import Derived.Laws.Concat
import Derived.Laws.Strings
import Derived.Test.YteljklkgdejhpaaGreatDoorChecked
import Derived.Deep.DeepCutAuto
set_option linter.unusedSimpArgs false
set_option linter.unusedVariables false
set_option maxRecDepth 100000
set_option maxHeartbeats 2000000
namespace Go.Proofs.YteljklkgdejhpaaGreatDoor
open Go.RowKit
section
variable {P : Program} {ops : Array Oper} {Q : Exit → Act → World → Prop}
theorem zds {md : Region.Mode} {S T : World → Prop} (h : ∀ w, T w → S w) : ∀ (fuel : Nat) (listed : Array Bool) (a : Act) (w : World), wpAnyH P md ops Q T fuel listed a w → wpAnyH P md ops Q S fuel listed a w
 | 0, _, _, _, k => k
 | fuel + 1, _, _, _, k => ⟨k.1, fun i hi => wpOp_mono (fun a' w' k' => ⟨h _ k'.1, zds h fuel _ a' w' k'.2⟩) (k.2 i hi)⟩
inductive Plan where
 | nil
 | step (i : Nat) (g : Bool) (rest : Plan)
 | fork (i : Nat) (p : Plan) (j : Nat) (q : Plan)
def Plan.size : Plan → Nat
 | .nil => 0
 | .step _ _ rest => rest.size + 1
 | .fork _ p _ _ => p.size + 1
def zcB (ops : Array Oper) : Plan → Array Bool → Bool
 | .nil, listed => (Region.ready .any ops listed).isEmpty
 | .step i g rest, listed => (if g then Region.ready .any ops listed == [i] else Region.free .any ops listed i && (Region.ready .any ops listed).contains i) && zcB ops rest (listed.setIfInBounds i true)
 | .fork i p j q, listed => Region.ready .any ops listed == [i, j] && (q.size == p.size && (zcB ops p (listed.setIfInBounds i true) && zcB ops q (listed.setIfInBounds j true)))
def za1 (P : Program) (ops : Array Oper) (Q : Exit → Act → World → Prop) : Plan → (World → Prop) → Act → World → Prop
 | .nil, _, a, w => Q .normal a w
 | .step i g rest, S, a, w => ∃ o, ops[i]? = some o ∧
   ((Region.wanted o (yielded ops a.tmps) = false ∧ za1 P ops Q rest S (a.put o.dst undef) w) ∨
    (Region.wanted o (yielded ops a.tmps) = true ∧ g = false ∧ ∃ v, (∀ W, S W → (execOp a.eval o).run P W = .ok (.value v) W) ∧ za1 P ops Q rest S (a.put o.dst v) w) ∨
    (Region.wanted o (yielded ops a.tmps) = true ∧ g = true ∧ o.wp P a w (fun a' w' => ∃ T : World → Prop, (∀ W, T W → S W) ∧ T w' ∧ za1 P ops Q rest T a' w') Q))
 | .fork i p j q, S, a, w =>
   wpOp P ops Q i (fun a' w' => ∃ T : World → Prop, (∀ W, T W → S W) ∧ T w' ∧ za1 P ops Q p T a' w') a w ∧
   wpOp P ops Q j (fun a' w' => ∃ T : World → Prop, (∀ W, T W → S W) ∧ T w' ∧ za1 P ops Q q T a' w') a w
theorem zba (hs : Region.noSelect ops = true) (hQ : ∀ c a w d v, Q (.panic c) (Act.put a d v) w → Q (.panic c) a w) :
  ∀ (plan : Plan) (S : World → Prop) (listed : Array Bool) (a : Act) (w : World), S w → zcB ops plan listed = true → za1 P ops Q plan S a w → wpAnyH P .any ops Q S plan.size listed a w
 | .nil, _, listed, a, w, _, hp, h => wpAnyH_done (by simpa [zcB] using hp) h _
 | .step i g rest, S, listed, a, w, hS, hp, h => by
  obtain ⟨o, ho, h⟩ := h
  simp only [zcB, Bool.and_eq_true] at hp
  obtain ⟨hp1, hp2⟩ := hp
  have take : ∀ v, g = false → YieldsIf P ops S o v a → za1 P ops Q rest S (a.put o.dst v) w → wpAnyH P .any ops Q S (rest.size + 1) listed a w := by
   intro v hg hy hr
   subst hg
   simp only [Bool.false_eq_true, if_false, Bool.and_eq_true] at hp1
   exact wpAnyH_take ho hs hp1.1 hp1.2 (fun c a w h => hQ c a w _ _ h) hy hS (zba hs hQ rest S _ _ w hS hp2 hr)
  have alone : g = true → wpOp P ops Q i (fun a' w' => ∃ T : World → Prop, (∀ W, T W → S W) ∧ T w' ∧ za1 P ops Q rest T a' w') a w → wpAnyH P .any ops Q S (rest.size + 1) listed a w := by
   intro hg hop
   subst hg
   simp only [if_true] at hp1
   refine wpAnyH_all (rs := [i]) (eq_of_beq hp1) (by simp) (fun j hj => ?_)
   simp only [List.mem_singleton] at hj
   subst hj
   refine wpOp_mono (fun a' w' k => ?_) hop
   obtain ⟨T, hT, hTw, k⟩ := k
   exact ⟨hT _ hTw, zds hT _ _ _ _ (zba hs hQ rest T _ a' w' hTw hp2 k)⟩
  rcases h with ⟨hw, hr⟩ | ⟨hw, hg, v, hv, hr⟩ | ⟨hw, hg, hop⟩
  ·cases g with
   | false => exact take undef rfl (.inr ⟨hw, rfl⟩) hr
   | true =>
    refine alone rfl ?_
    unfold wpOp
    simp only [ho, hw, Bool.false_eq_true, if_false]
    exact ⟨S, fun _ h => h, hS, hr⟩
  ·exact take v hg (.inl ⟨hw, hv⟩) hr
  ·refine alone hg ?_
   unfold wpOp
   simp only [ho, hw, if_true]
   exact .inl hop
 | .fork i p j q, S, listed, a, w, hS, hp, h => by
  simp only [zcB, Bool.and_eq_true] at hp
  obtain ⟨hp1, hp2, hp3, hp4⟩ := hp
  refine wpAnyH_all (rs := [i, j]) (eq_of_beq hp1) (by simp) (fun k hk => ?_)
  simp only [List.mem_cons, List.not_mem_nil, or_false] at hk
  rcases hk with rfl | rfl
  ·refine wpOp_mono (fun a' w' k => ?_) h.1
   obtain ⟨T, hT, hTw, k⟩ := k
   exact ⟨hT _ hTw, zds hT _ _ _ _ (zba hs hQ p T _ a' w' hTw hp3 k)⟩
  ·refine wpOp_mono (fun a' w' k => ?_) h.2
   obtain ⟨T, hT, hTw, k⟩ := k
   have := zba hs hQ q T _ a' w' hTw hp4 k
   rw [eq_of_beq hp2] at this
   exact ⟨hT _ hTw, zds hT _ _ _ _ this⟩
theorem zah (S : World → Prop) (plan : Plan) {id : Nat} {a : Act} {w : World} (hS : S w.drew) (hm : P.follows .mixedOrders = true) (hs : Region.noSelect ops = true) (hlen : plan.size = ops.size) (hp : zcB ops plan (Array.replicate ops.size false) = true)
  (h : za1 P ops (NoPanic Q) plan S a w.drew) : (Code.region id ops true).wp P Q a w := by
 refine wp_region_noPanic (wp_region_held_drew (S := S) hm hS (fun _ => ?_))
 have := zba hs (fun _ _ _ _ _ h => h) plan S _ a w.drew hS hp h
 rw [hlen] at this
 exact this
theorem zaw (plan : Plan) {id : Nat} {a : Act} {w : World} (hm : P.follows .mixedOrders = true) (hs : Region.noSelect ops = true) (hlen : plan.size = ops.size) (hp : zcB ops plan (Array.replicate ops.size false) = true)
  (h : za1 P ops (NoPanic Q) plan (fun W => Below w.drew.heap.size w.drew W) a w.drew) : (Code.region id ops true).wp P Q a w := zah _ plan (Below.refl _ _) hm hs hlen hp h
theorem zfa (B : Nat) (plan : Plan) {id : Nat} {a : Act} {w : World} (hm : P.follows .mixedOrders = true) (hs : Region.noSelect ops = true) (hlen : plan.size = ops.size) (hp : zcB ops plan (Array.replicate ops.size false) = true)
  (h : za1 P ops (NoPanic Q) plan (fun W => Below B w.drew W) a w.drew) : (Code.region id ops true).wp P Q a w := zah _ plan (Below.refl _ _) hm hs hlen hp h
theorem zdh {i : Nat} {g : Bool} {rest : Plan} {S : World → Prop} {o : Oper} {a : Act} {w : World} (ho : ops[i]? = some o) (hw : Region.wanted o (yielded ops a.tmps) = false)
  (h : za1 P ops Q rest S (a.put o.dst undef) w) : za1 P ops Q (.step i g rest) S a w := ⟨o, ho, .inl ⟨hw, h⟩⟩
theorem zae {i : Nat} {rest : Plan} {S : World → Prop} {o : Oper} {a : Act} {w : World} {v : Value} (ho : ops[i]? = some o) (hw : Region.wanted o (yielded ops a.tmps) = true)
  (hv : ∀ W, S W → (execOp a.eval o).run P W = .ok (.value v) W) (h : za1 P ops Q rest S (a.put o.dst v) w) : za1 P ops Q (.step i false rest) S a w := ⟨o, ho, .inr (.inl ⟨hw, rfl, v, hv, h⟩)⟩
theorem zaI {i : Nat} {rest : Plan} {o : Oper} {a : Act} {w : World} (ho : ops[i]? = some o) (hw : Region.wanted o (yielded ops a.tmps) = true)
  (h : ∀ K : Act → World → Prop, Shut (∀ a' w', Below w.heap.size w w' → za1 P ops Q rest (fun W => Below w'.heap.size w' W) a' w' → K a' w') → o.wp P a w K Q) : za1 P ops Q (.step i true rest) (fun W => Below w.heap.size w W) a w :=
 ⟨o, ho, .inr (.inr ⟨hw, rfl, h _ (fun _ _ hb hr => ⟨_, fun _ hW => zaa hb hW, Below.refl _ _, hr⟩)⟩)⟩
theorem zfs {i : Nat} {rest : Plan} {B : Nat} {o : Oper} {a : Act} {w : World} (ho : ops[i]? = some o) (hw : Region.wanted o (yielded ops a.tmps) = true)
  (h : ∀ K : Act → World → Prop, Shut (∀ a' w', Below B w w' → za1 P ops Q rest (fun W => Below B w' W) a' w' → K a' w') → o.wp P a w K Q) : za1 P ops Q (.step i true rest) (fun W => Below B w W) a w :=
 ⟨o, ho, .inr (.inr ⟨hw, rfl, h _ (fun _ _ hb hr => ⟨_, fun _ hW => hb.trans hW, Below.refl _ _, hr⟩)⟩)⟩
theorem zad {i : Nat} {rest : Plan} {S : World → Prop} {o : Oper} {a : Act} {w : World} (ho : ops[i]? = some o) (hw : Region.wanted o (yielded ops a.tmps) = true)
  (h : ∀ K : Act → World → Prop, Shut (∀ a' w', S w' → za1 P ops Q rest S a' w' → K a' w') → o.wp P a w K Q) : za1 P ops Q (.step i true rest) S a w :=
 ⟨o, ho, .inr (.inr ⟨hw, rfl, h _ (fun _ _ hb hr => ⟨S, fun _ hW => hW, hb, hr⟩)⟩)⟩
theorem zco {i j : Nat} {p q : Plan} {S : World → Prop} {o u : Oper} {a : Act} {w : World} (ho : ops[i]? = some o) (hu : ops[j]? = some u) (hw : Region.wanted o (yielded ops a.tmps) = true) (hx : Region.wanted u (yielded ops a.tmps) = true)
  (h : ∀ K : Act → World → Prop, Shut (∀ a' w', S w' → za1 P ops Q p S a' w' → K a' w') → o.wp P a w K Q) (k : ∀ K : Act → World → Prop, Shut (∀ a' w', S w' → za1 P ops Q q S a' w' → K a' w') → u.wp P a w K Q) : za1 P ops Q (.fork i p j q) S a w := by
 constructor
 ·unfold wpOp
  simp only [ho, hw, if_true]
  exact .inl (h _ (fun _ _ hb hr => ⟨S, fun _ hW => hW, hb, hr⟩))
 ·unfold wpOp
  simp only [hu, hx, if_true]
  exact .inl (k _ (fun _ _ hb hr => ⟨S, fun _ hW => hW, hb, hr⟩))
theorem zal {S : World → Prop} {a : Act} {w : World} (h : Q .normal a w) : za1 P ops (NoPanic Q) .nil S a w := h
end
section
variable {P : Program} (w : World)
end
theorem zbO {Q : World → Prop} {v : World} (F : World → Prop) (hF : F v) (h : ∀ W, F W → Q W) : Q v := h v hF
def Row (w : World) (g : Nat) (t : TypeId) (l : List Value) : Prop := w.heap[g]? = some (.cells l.toArray t (0, 0))
section
variable {w w' : World} {g : Nat} {t : TypeId} {l : List Value}
theorem Row.lt (h : Row w g t l) : g < w.heap.size := (Array.getElem?_eq_some_iff.1 h).1
theorem Row.cell? (h : Row w g t l) (i : Nat) : w.cell? ⟨g, i, none⟩ = l[i]? := by
 rw [cell_of_row w g i _ t (0, 0) h]
 simp
theorem Row.cell (h : Row w g t l) {i : Nat} {v : Value} (hi : l[i]? = some v) : w.cell? ⟨g, i, none⟩ = some v := (h.cell? i).trans hi
theorem Row.keep {B : Nat} (h : Row w g t l) (hb : Below B w w') (hg : g < B) : Row w' g t l := (hb.block g hg).trans h
theorem Row.later (h : Row w g t l) (hb : Below w.heap.size w w') : Row w' g t l := h.keep hb h.lt
theorem Row.drew (h : Row w g t l) : Row w.drew g t l := h
theorem Row.alloc (h : Row w g t l) (o : Obj) : Row (w.alloc o) g t l := (Below.heap_alloc w o g h.lt).trans h
theorem Row.new (w : World) (t : TypeId) (l : List Value) (cs : Array Value) (h : cs = l.toArray) : Row (w.alloc (.cells cs t)) w.heap.size t l := by subst h; exact heap_alloc_new w _
theorem Row.new_at (w : World) (g : Nat) (hg : g = w.heap.size) (t : TypeId) (l : List Value) (cs : Array Value) (h : cs = l.toArray) : Row (w.alloc (.cells cs t)) g t l := by subst hg; exact Row.new w t l cs h
theorem Row.range (h : Row w g t l) : w.rangeAt g 0 l := fun j v hv => by rw [Nat.zero_add]; exact h.cell hv
theorem Row.frozen (h : Row w g t l) (i : Nat) : w.frozen? ⟨g, i, none⟩ = false := by
 have h' : w.heap[g]? = some (.cells l.toArray t (0, 0)) := h
 simp [World.frozen?, h']
theorem Row.setRow (h : Row w g t l) (m : List Value) : Row (w.setRow g m.toArray) g t m := setRow_heap w g _ _ t _ h
theorem Row.setRow_at (h : Row w g t l) (m : List Value) (cs : Array Value) (e : cs = m.toArray) : Row (w.setRow g cs) g t m := by subst e; exact h.setRow m
theorem Row.setRow_other (h : Row w g t l) {k : Nat} (hk : g ≠ k) (cs : Array Value) : Row (w.setRow k cs) g t l := (Go.setRow_other w k g cs hk).trans h
theorem Row.setCell (h : Row w g t l) (i : Nat) (v : Value) : Row (w.setCell ⟨g, i, none⟩ v) g t (l.set i v) := by
 have h' : w.heap[g]? = some (.cells l.toArray t (0, 0)) := h
 have hlt : g < w.heap.size := h.lt
 have hv : w.heap[g] = .cells l.toArray t (0, 0) := (Array.getElem?_eq_some_iff.1 h').2
 unfold Row World.setCell
 rw [Array.getElem?_eq_getElem (by simpa using hlt), Array.getElem_modify]
 simp [hv]
theorem Row.setCell_other (h : Row w g t l) {p : Addr} (hk : g ≠ p.block) (v : Value) : Row (w.setCell p v) g t l := (Below.heap_setCell w p v g hk).trans h
theorem Row.rd {α : Type} {f : α → Value} {L : List α} (h : Row w g t (L.map f)) : Rd f w (some ⟨g, 0, none⟩) L := fun _ => ⟨g, 0, rfl, fun i hi => by rw [Nat.zero_add]; exact h.cell (by simp [hi])⟩
variable {P : Program}
theorem Row.loadVar (h : Row w g t l) (ty : TypeId) (d : TypeDesc) (hu : P.underlying ty = some d) (hd : d.isRow = true) (hi : (P.info? ty).map (·.size) = some l.length) :
  (Go.loadVar ty ⟨g, 0, none⟩).run P w = .ok (.agg l.toArray) w := run_loadVar_mid w g 0 ty l d h.range hu hd hi
theorem Row.store (h : Row w g t l) (ty : TypeId) (m : List Value) (hi : (P.info? ty).map (·.size) = some m.length) (hl : l.length = m.length) (h1 : ∀ v ∈ m, v.oneCell' = true) :
  (Instr.storeAt ty (.pointer (some ⟨g, 0, none⟩)) (.agg m.toArray)).run P w = .ok () (w.setRow g m.toArray) := by
 simp only [Instr.storeAt, Instr.sureAddr, Sem.run_bind, Sem.run_pure, Result.andThen_ok]
 exact run_storeVar_row w g t ty l.toArray m.toArray h (by simpa using hi) (by simpa using hl) (all_oneCell_toArray h1)
end
section
variable {P : Program} {op : Oper} {a : Act} {w : World} {K : Act → World → Prop} {Q : Exit → Act → World → Prop} {ops : Array Oper} {rest : List Oper} {g : Nat} {t : TypeId} {l : List Value}
theorem Row.wp_store (ty : TypeId) (x y : Operand) (ho : op.op = .store ty x y) (hx : a.eval x = .pointer (some ⟨g, 0, none⟩)) (m : List Value) (hy : a.eval y = .agg m.toArray) (h : Row w g t l)
  (hi : (P.info? ty).map (·.size) = some m.length) (hl : l.length = m.length) (h1 : ∀ v ∈ m, v.oneCell' = true) (k : K (a.put op.dst undef) (w.setRow g m.toArray)) : op.wp P a w K Q := by
 unfold Oper.wp execOp
 have := h.store (P := P) ty m hi hl h1
 simp only [Instr.storeAt, Instr.sureAddr, Sem.run_bind, Sem.run_pure, Result.andThen_ok] at this
 simp only [ho, hx, hy, Instr.storeAt, Instr.sureAddr, Sem.run_bind, Sem.run_pure, Result.andThen_ok, this]
 exact k
theorem zab (hgd : op.guard = none) (ty : TypeId) (x y : Operand) (ho : op.op = .store ty x y) (g : Nat) (hx : a.eval x = .pointer (some ⟨g, 0, none⟩)) (m : List Value) (hy : a.eval y = .agg m.toArray) (t : TypeId) (l : List Value) (h : Row w g t l)
  (hi : (P.info? ty).map (·.size) = some m.length) (hl : l.length = m.length) (h1 : ∀ v ∈ m, v.oneCell' = true) (k : wpList P ops Q rest (a.put op.dst undef) (w.setRow g m.toArray)) : wpList P ops Q (op :: rest) a w :=
 wpList_plain hgd fun _ hK => h.wp_store ty x y ho hx m hy hi hl h1 (hK _ _ k)
theorem zac (hgd : op.guard = none) (ty : TypeId) (x : Operand) (ho : op.op = .load ty x) (g o : Nat) (hx : a.eval x = .pointer (some ⟨g, o, none⟩)) (t : TypeId) (l : List Value) (h : Row w g t l) (m : List Value) (hm : (l.drop o).take m.length = m)
  (d : TypeDesc) (hu : P.underlying ty = some d) (hd : d.isRow = true) (hi : (P.info? ty).map (·.size) = some m.length) (k : wpList P ops Q rest (a.put op.dst (.agg m.toArray)) w) : wpList P ops Q (op :: rest) a w :=
 wpList_load_mid hgd ty x ho g o hx m d (fun j v hv => by
   have hj : j < m.length := (List.getElem?_eq_some_iff.1 hv).1
   have := congrArg (·[j]?) hm
   simp only [List.getElem?_take, List.getElem?_drop, hj, if_true] at this
   exact h.cell (this.trans hv)) hu hd hi k
end
theorem Row.setCells {g : Nat} {t : TypeId} : ∀ (m : List Value) (o : Nat) {w : World} {l : List Value}, Row w g t l → o + m.length ≤ l.length → Row (w.setCells g o m) g t (l.take o ++ m ++ l.drop (o + m.length))
 | [], o, w, l, h, _ => by simpa [World.setCells] using h
 | v :: m, o, w, l, h, hl => by
  simp only [List.length_cons] at hl
  have k := Row.setCells m (o + 1) (h.setCell o v) (by simp; omega)
  have e : (l.set o v).take (o + 1) ++ m ++ (l.set o v).drop (o + 1 + m.length) = l.take o ++ v :: m ++ l.drop (o + (v :: m).length) := by
   have ho : o < l.length := by omega
   rw [List.drop_set_of_lt (by omega), List.take_succ_eq_append_getElem (by simpa using ho), List.getElem_set_self, List.take_set_of_le (Nat.le_refl _)]
   simp [Nat.add_assoc, Nat.add_comm 1]
  rw [← e]
  exact k
theorem Row.setCells_other {g b : Nat} {t : TypeId} (hk : g ≠ b) : ∀ (m : List Value) (o : Nat) {w : World} {l : List Value}, Row w g t l → Row (w.setCells b o m) g t l
 | [], _, _, _, h => h
 | v :: m, o, _, _, h => Row.setCells_other hk m (o + 1) (h.setCell_other (p := ⟨b, o, none⟩) hk v)
theorem zaQ {B b : Nat} (hb : B ≤ b) : ∀ (m : List Value) (o : Nat) {a w : World}, Below B a w → Below B a (w.setCells b o m)
 | [], _, _, _, h => h
 | v :: m, o, _, _, h => zaQ hb m (o + 1) (h.setCell (p := ⟨b, o, none⟩) hb v)
theorem zag {P : Program} {fn : Func} {p u : Tmp} {ty : TypeId} (h : fn.results = #[.cell p ty, .tmp u]) (tmps : Array Value) (w : World) (g : Nat) (t : TypeId) (l : List Value) (d : TypeDesc) (hp : tmps.getD p undef = .pointer (some ⟨g, 0, none⟩)) (hg : Row w g t l)
  (hu : P.underlying ty = some d) (hd : d.isRow = true) (hi : (P.info? ty).map (·.size) = some l.length) : (results fn tmps).run P w = .ok (.tuple #[.agg l.toArray, tmps.getD u undef]) w := by
 rw [results_cell_tmp h, hp]
 simp only [asAddr, Sem.run_pure, Result.andThen_ok, hg.loadVar (P := P) ty d hu hd hi]
theorem Rd.setRow {α : Type} {f : α → Value} {w : World} {A : Option Addr} {L : List α} (h : Rd f w A L) {g : Nat} (cs : Array Value) (hg : ∀ a, A = some a → a.block ≠ g) : Rd f (w.setRow g cs) A L := fun hn => by
 obtain ⟨b, o, rfl, hc⟩ := h hn
 exact ⟨b, o, rfl, fun i hi => (cell_setRow_other w g cs ⟨b, o + i, none⟩ (hg ⟨b, o, none⟩ rfl)).trans (hc i hi)⟩
theorem zji {α : Type} {f : α → Value} (hf : ∀ x, (f x).oneCell' = true) (L : List α) : ∀ v ∈ L.map f, v.oneCell' = true := fun v hv => by
 obtain ⟨x, _, rfl⟩ := List.mem_map.1 hv
 exact hf x
theorem zdt {P : Program} {α : Type} {f : α → Value} {o : Oper} {a : Act} {w : World} {K : Act → World → Prop} {Q : Exit → Act → World → Prop} (d s : Operand) (dT sT : TypeId)
  (ho : o.op = .call { callee := .builtin .copy, args := #[d, s], argTypes := #[dT, sT] }) (elem : TypeId) (hu : P.underlying dT = some (.slice elem)) (hsz : (P.info? elem).map (·.size) = some 1)
  (g off dLen dCap : Nat) (A : Option Addr) (L : List α) (sCap : Nat) (hd : a.eval d = .slice (some ⟨g, off, none⟩) dLen dCap) (hs : a.eval s = .slice A L.length sCap)
  (cur : List Value) (t : TypeId) (hg : Row w g t cur) (hr : Rd f w A L) (hf : ∀ x, (f x).oneCell' = true) (hle : L.length ≤ dLen) (hfit : off + L.length ≤ cur.length)
  (h : K (a.put o.dst (.int .i64 (L.length : Int))) (w.setRow g (cur.take off ++ L.map f ++ cur.drop (off + L.length)).toArray)) : o.wp P a w K Q := by
 by_cases hn : L = []
 ·subst hn
  have hrun := run_copy_none (P := P) w dT sT o.type elem (some ⟨g, off, none⟩) A dLen dCap 0 sCap hu hsz (by simp)
  unfold Oper.wp
  simp only [execOp, ho, resolve, invoke, builtin, hd, hs, Sem.run_bind, Sem.run_pure, Result.andThen_ok, List.map_toArray, List.map_cons, List.map_nil, List.length_nil, hrun]
  have e : w.setRow g (cur.take off ++ ([] : List α).map f ++ cur.drop (off + ([] : List α).length)).toArray = w := by
   simp only [List.map_nil, List.append_nil, List.length_nil, Nat.add_zero, List.take_append_drop]
   exact setRow_self w g _ t _ hg
  rw [e] at h
  exact h
 ·obtain ⟨b, oo, rfl, hc⟩ := hr hn
  have hrun := run_copy_row (P := P) w dT sT o.type elem g off dLen dCap ⟨b, oo, none⟩ L.length sCap cur.toArray t (L.map f) hu hsz hg (by rw [List.length_map]; exact (Nat.min_eq_left hle).symm) (fun j v hv => by
   have hj : j < L.length := by simpa using (List.getElem?_eq_some_iff.1 hv).1
   have e1 : (⟨b, oo, none⟩ : Addr).add j = ⟨b, oo + j, none⟩ := by unfold Addr.add; split <;> simp_all
   rw [e1, hc j hj, ← hv]
   simp [hj]) (by simpa using hfit) (zji hf L)
  unfold Oper.wp
  simp only [execOp, ho, resolve, invoke, builtin, hd, hs, Sem.run_bind, Sem.run_pure, Result.andThen_ok, List.map_toArray, List.map_cons, List.map_nil, hrun]
  have e2 : ((cur.toArray.toList.take off ++ L.map f ++ cur.toArray.toList.drop (off + (L.map f).length)).toArray) = (cur.take off ++ L.map f ++ cur.drop (off + L.length)).toArray := by simp
  have e3 : goInt ((L.map f).length : Nat) = .int .i64 (L.length : Int) := by simp [goInt]
  rw [e2, e3]
  exact h
theorem zf2 {P : Program} {α : Type} {f : α → Value} {ops : Array Oper} {rest : List Oper} {o : Oper} {a : Act} {w : World} {Q : Exit → Act → World → Prop} (hgd : o.guard = none) (d s : Operand) (dT sT : TypeId)
  (ho : o.op = .call { callee := .builtin .copy, args := #[d, s], argTypes := #[dT, sT] }) (elem : TypeId) (hu : P.underlying dT = some (.slice elem)) (hsz : (P.info? elem).map (·.size) = some 1)
  (g off dLen dCap : Nat) (A : Option Addr) (L : List α) (sCap : Nat) (hd : a.eval d = .slice (some ⟨g, off, none⟩) dLen dCap) (hs : a.eval s = .slice A L.length sCap)
  (cur : List Value) (t : TypeId) (hg : Row w g t cur) (hr : Rd f w A L) (hf : ∀ x, (f x).oneCell' = true) (hle : L.length ≤ dLen) (hfit : off + L.length ≤ cur.length)
  (h : wpList P ops Q rest (a.put o.dst (.int .i64 (L.length : Int))) (w.setRow g (cur.take off ++ L.map f ++ cur.drop (off + L.length)).toArray)) : wpList P ops Q (o :: rest) a w :=
 wpList_plain hgd fun _ hK => zdt d s dT sT ho elem hu hsz g off dLen dCap A L sCap hd hs cur t hg hr hf hle hfit (hK _ _ h)
theorem zob (x : UInt32) (k : Int) (s : Nat) (w : World) (hs : s < 32) (hk : bits .and .u64 (IntKind.u64.wrap k) 31 = (s : Int)) :
  Calls Tryz.prog 201 #[.int .u32 (x.toNat : Int), .int .i64 k] w fun e w' => e = .returned (.int .u32 ((rotR x (32 - s)).toNat : Int)) ∧ w = w' := by
 have H := Lib.hid (zkS x s hs)
 have hx := zc1 x
 go_enter Tryz.func201, Tryz.ntmps201
 go_wp2
 go_ret
 exact ⟨zl6 H.out, rfl⟩
theorem zpc (x : UInt32) (n : Int) (w : World) :
  Calls Tryz.prog 200 #[.int .u32 (x.toNat : Int), .int .i64 n] w fun e w' => e = .returned (.int .u32 ((rotR x (n % 32).toNat).toNat : Int)) ∧ w = w' := by
 have H := Lib.hid (zqb n)
 have H2 : Hid (rotR x (32 - ((-n) % 32).toNat) = rotR x (n % 32).toNat) := zl3 x (by omega)
 go_enter Tryz.func200, Tryz.ntmps200
 go_wp2_with (go_at_call 201; refine (zob x _ _ _ (by omega) H.out).mono ?_; rintro e w' ⟨rfl, rfl⟩)
 go_ret
 rw [H2.out]
 exact ⟨rfl, rfl⟩
theorem zki (l : List UInt8) (A : Option Addr) (cap : Nat) (w : World) (hr : Rd vB w A l) (hl : l.length ≤ 9223372036854775807) :
  Calls Tryz.prog 175 #[.slice A l.length cap] w fun e w' => e = .returned (.int .u64 ((valN l % 18446744073709551616 : Nat) : Int)) ∧ w = w' := by
 go_enter Tryz.func175, Tryz.ntmps175
 go_wp2
 go_loop [3, 8] (fun v i => ∃ k : Nat, k ≤ l.length ∧ i = .int .i64 k ∧ v = .int .u64 ((valN (l.take k) % 18446744073709551616 : Nat) : Int)) (fun _ i => l.length - (intOf i).toNat)
 case atStart => exact ⟨0, Nat.zero_le _, rfl, rfl⟩
 case round =>
  obtain ⟨k, hk, rfl, rfl⟩ := hrel
  by_cases hlt : k < l.length
  ·obtain ⟨b, o, rfl, hb, hcell⟩ := hr.at hlt
   have hc := hcell k hlt
   unfold vB at hc
   have hb8 : l[k].toNat < 256 := l[k].toNat_lt
   have HS : Hid _ := zl5 (valN (l.take k)) l[k].toNat hb8
   have HT : Hid _ := zl4 l k hlt
   generalize l[k] = c at hc hb8 HS HT
   clear hcell hr
   go_wp2
   go_round
   case rel => exact ⟨k + 1, by omega, by go_num, by rw [HT.out, HS.out]⟩
   case measure => simp [intOf]; omega
  ·have hk' : k = l.length := by omega
   have HK : Hid (l.take k = l) := by rw [hk']; exact List.take_length
   clear hk'
   go_wp2
   go_ret
   exact ⟨zl6 (by rw [HK.out]), rfl⟩
theorem zmq (l : List UInt8) (A : Option Addr) (cap : Nat) (w : World) (hr : Rd vB w A l) (hl : l.length ≤ 9223372036854775807) :
  Calls Tryz.prog 162 #[.slice A l.length cap] w fun e w' => e = .returned (.tuple #[.int .u64 ((getR l).1 : Int), .int .i64 (getR l).2]) ∧ w = w' := by
 by_cases h8 : l.length = 8
 ·have hv := zcD l (by omega)
  have H : Hid (getR l = (valN l, 0)) := by unfold Hid getR; rw [if_pos h8]
  have HL := Lib.hid h8
  have h8' : ((l.length : Int) != 8) = false := by simp; omega
  clear h8
  go_enter Tryz.func162, Tryz.ntmps162
  go_wp2_with (go_at_call 175; refine (zki l _ _ _ hr hl).mono ?_; rintro e w' ⟨rfl, rfl⟩)
  go_ret2
  exact ⟨zkb (by rw [H.out]; show (valN l : Int) % _ = (valN l : Int); omega) (by rw [H.out]), rfl⟩
 ·have H : Hid (getR l = (0, 1)) := by unfold Hid getR; rw [if_neg h8]
  have h8' : ((l.length : Int) != 8) = true := by simp; omega
  clear h8
  go_enter Tryz.func162, Tryz.ntmps162
  go_wp2_with fail
  go_ret2
  exact ⟨zkb (by rw [H.out]; rfl) (by rw [H.out]), rfl⟩
theorem zkj (n : Nat) : vB (UInt8.ofNat n) = .int .u8 ((n % 256 : Nat) : Int) := by
 unfold vB
 rw [UInt8.toNat_ofNat']
theorem zmr (v : Nat) (hv : v < 18446744073709551616) :
  #[Value.int IntKind.u8 ((v : Int) / 72057594037927936), Value.int IntKind.u8 ((v : Int) / 281474976710656 % 256), Value.int IntKind.u8 ((v : Int) / 1099511627776 % 256), Value.int IntKind.u8 ((v : Int) / 4294967296 % 256),
   Value.int IntKind.u8 ((v : Int) / 16777216 % 256), Value.int IntKind.u8 ((v : Int) / 65536 % 256), Value.int IntKind.u8 ((v : Int) / 256 % 256), Value.int IntKind.u8 ((v : Int) % 256)] = ((putL v).map vB).toArray := by
 have e : (putL v).map vB = [vB (UInt8.ofNat (v / 72057594037927936)), vB (UInt8.ofNat (v / 281474976710656)), vB (UInt8.ofNat (v / 1099511627776)), vB (UInt8.ofNat (v / 4294967296)),
   vB (UInt8.ofNat (v / 16777216)), vB (UInt8.ofNat (v / 65536)), vB (UInt8.ofNat (v / 256)), vB (UInt8.ofNat (v / 1))] := rfl
 rw [e]
 simp only [zkj]
 have e0 : ((v : Int) / 72057594037927936) = ((v / 72057594037927936 % 256 : Nat) : Int) := by omega
 rw [e0]
 simp
theorem zdu (v : Nat) : (putL v).length = 8 := rfl
theorem zhH (v : Nat) (hv : v < 18446744073709551616) (w : World) :
  Calls Tryz.prog 114 #[.int .u64 (v : Int)] w (RetS vB w (putL v)) := by
 have hmk : ∀ w, (Instr.makeSlice 22 (.int .i64 8) (.int .i64 8)).run Tryz.prog w = .ok (.slice (some ⟨w.heap.size, 0, none⟩) 8 8) (w.alloc (.cells #[.int .u8 0, .int .u8 0, .int .u8 0, .int .u8 0, .int .u8 0, .int .u8 0, .int .u8 0, .int .u8 0] 5)) := fun _ => by kernel_rfl
 go_enter Tryz.func114, Tryz.ntmps114
 go_wp2
 refine wp_loop_rounds 9 ?_
 iterate 9 (rw [rounds_succ]; go_wp2)
 go_ret
 exact ⟨_, 8, rfl, Nat.le_refl _, Rd.new _ _ _ _ (zmr v hv), (Below.refl _ _).alloc (Nat.le_refl _) _⟩
def zea : Value → Nat | .slice _ n _ => n | _ => 0
theorem za0 (w : World) : (sizeOf 5).run Tryz.prog w = .ok 1 w := by kernel_rfl
theorem zoc : (Tryz.prog.info? 227).map (fun i => (i.zero, i.size, i.bytes)) = some (some (.int .u32 0), 1, 4) := by kernel_rfl
theorem zcx : (Tryz.prog.info? 5).map (fun i => (i.zero, i.size, i.bytes)) = some (some (.int .u8 0), 1, 1) := by kernel_rfl
def zkk (L : List UInt8) (w : World) (s v : Value) (wr : World) : Prop :=
 ∃ (M : List UInt8) (D : List UInt32) (A : Option Addr) (cap : Nat), s = .slice A M.length cap ∧ M.length ≤ cap ∧ Rd vB w A M ∧
  wr.ownsRow w.heap.size 227 1 v D.length (D.map vW) ∧ Below w.heap.size w wr ∧ zbw L = D ++ zbw M ∧ 4 * D.length + M.length ≤ L.length
theorem zjj {L M : List UInt8} {D : List UInt32} {w wr w1 : World} {A : Option Addr} {cap V : Nat} {u v : Value} {o : Obj} (hM : M.length + 4 ≤ cap) (hL : 4 * D.length + M.length + 4 ≤ L.length) (hr : Rd vB w A M)
  (ho : wr.ownsRow w.heap.size 227 1 u D.length (D.map vW)) (hb : Below w.heap.size w wr) (HV : Hid (Value.int .u32 (V : Int) = vW (UInt32.ofNat V))) (HW : Hid (zbw L = (D ++ [UInt32.ofNat V]) ++ zbw M))
  (ho' : w1.ownsRow w.heap.size 227 1 v (D.length + 1) (D.map vW ++ [.int .u32 (V : Int)])) (hg : (wr.alloc o).grownBy w1 u.ownBlock) : zkk L w (.slice A M.length (cap - 4)) v w1 :=
 ⟨M, D ++ [UInt32.ofNat V], A, cap - 4, rfl, by omega, hr, by rw [HV.out] at ho'; simpa using ho',
  (hb.alloc hb.size o).grown hg (by have := hb.size; simp; omega) (fun k hk => (ho.lt k hk).1), HW.out, by simp; omega⟩
set_option maxRecDepth 100000 in
theorem zms (L : List UInt8) (A : Option Addr) (cap : Nat) (w : World) (hr : Rd vB w A L) (hc : L.length ≤ cap) (hl : L.length ≤ 140737488351232) :
  Calls Tryz.prog 198 #[.slice A L.length cap] w (RetS vW w (zbw L)) := by
 obtain ⟨i0, hi, hz0, hz1, hz2⟩ := info_parts zoc
 go_enter Tryz.func198, Tryz.ntmps198
 go_wp2_with (at_make; refine wpList_make_own _ rfl _ _ 217 rfl w.heap.size 227 i0 (.int .u32 0) 1 Tryz.underlying217 hi hz0 hz1 .i64 .i64 _ (L.length / 4) rfl rfl (by omega) (by rw [hz2]; omega) (by unfold maxLen; omega) (Nat.le_refl _) ?_; intro w0 hown0 hgrow0)
 go_loopw [0, 3] (fun s v wr => zkk L w s v wr) (fun s _ _ => zea s)
 case atStart => exact ⟨L, [], A, cap, rfl, hc, hr, hown0, (Below.refl _ _).grown hgrow0 (Nat.le_refl _) (by simp), rfl, by simp⟩
 case round =>
  obtain ⟨M, D, A1, cap1, rfl, hcap1, hrd1, hown1, hbel1, hw1, hlen1⟩ := hrel
  have HW := Lib.hid hw1
  clear hw1 hr hc
  by_cases h4 : 4 ≤ M.length
  ·match M, h4 with
   | a :: b :: c :: d :: M, h4 =>
    obtain ⟨blk, o, rfl, hb, hcell⟩ := hrd1.at (k := 0) (by simp)
    have hrj : Rd vB wr (some ⟨blk, o, none⟩) [a, b, c, d] := Rd.keep (by simpa using hrd1.take 4) hbel1
    have hM : M.length + 4 ≤ cap1 := by simpa using hcap1
    have hL4 : 4 * D.length + M.length + 4 ≤ L.length := by simpa [Nat.add_assoc] using hlen1
    have hv := zcD [a, b, c, d] (by simp)
    have hv4 := zhx [a, b, c, d]
    simp only [List.length_cons, List.length_nil, Nat.zero_add, Nat.reduceAdd, Nat.reducePow] at hv4
    have hrd2 : Rd vB w (if cap1 = 4 then some ⟨blk, o, none⟩ else some ⟨blk, o + 4, none⟩) M := by
     have := hrd1.drop 4 cap1 hcap1
     simpa [Addr.add] using this
    have HV : Hid ((Value.int .u32 ((valN [a, b, c, d] : Nat) : Int)) = vW (UInt32.ofNat (valN [a, b, c, d]))) := by
     unfold Hid vW
     rw [UInt32.toNat_ofNat', Nat.mod_eq_of_lt (by omega)]
    have HW' : Hid (zbw L = (D ++ [UInt32.ofNat (valN [a, b, c, d])]) ++ zbw M) := by
     unfold Hid
     rw [HW.out, List.append_assoc]
     rfl
    generalize hgv : valN [a, b, c, d] = V at hv hv4 HV HW'
    have HG : Hid (valN [a, b, c, d] % 18446744073709551616 = V) := by unfold Hid; rw [hgv, Nat.mod_eq_of_lt hv]
    clear hgv hcell hrd1 HW hcap1 hlen1
    go_wp2_with (first
     | (go_at_call 175; refine (zki [a, b, c, d] _ _ _ hrj (by simp)).mono ?_; rintro e w' ⟨rfl, rfl⟩; rw [HG.out])
     | (at_builtin; refine wpList_append_own _ rfl _ _ 217 rfl w.heap.size 227 i0 (.int .u32 0) 1 4 Tryz.underlying217 hi hz0 hz1 hz2 rfl (by decide) _ _ _ rfl (hown1.alloc _) ⟨wr.heap.size, 0, none⟩ 1 1 [.int .u32 (V : Int)] rfl rfl (cell_one_new _ _ _) (by intro u hu; simp at hu; subst hu; rfl) (by unfold maxLen; omega) (by omega) (by have := hbel1.size; simp; omega) ?_; intro v' w1 hown' hgrow' _))
    go_roundw
    case rel => exact zjj hM hL4 hrd2 hown1 hbel1 HV HW' hown' hgrow'
    case measure => simp [zea]; omega
   | [], h4 => simp at h4
   | [_], h4 => simp at h4
   | [_, _], h4 => simp at h4
   | [_, _, _], h4 => simp at h4
  ·have HE : Hid (zbw L = D) := by unfold Hid; rw [HW.out, zc2 M (by omega), List.append_nil]
   go_wp2_with fail
   go_ret
   rw [HE.out]
   exact RetS.own hown1 hbel1
def zkl (L : List UInt32) (w : World) (v i : Value) (wr : World) : Prop :=
 ∃ k : Nat, k ≤ L.length ∧ i = .int .i64 k ∧ wr.ownsRow w.heap.size 5 1 v (zbx (L.take k)).length ((zbx (L.take k)).map vB) ∧ Below w.heap.size w wr
theorem zeJ (l : List UInt32) : (zbx l).length = 4 * l.length := by
 unfold zbx
 induction l with
 | nil => rfl
 | cons a l ih => rw [List.flatMap_cons, List.length_append, ih, List.length_cons]; show 4 + _ = _; omega
theorem zjk (l : List UInt32) (k : Nat) (h : k < l.length) : zbx (l.take (k + 1)) = zbx (l.take k) ++ zeB l[k] := by
 unfold zbx
 rw [List.take_succ_eq_append_getElem h, List.flatMap_append]
 simp
theorem zij (x : UInt32) : [Value.int .u8 ((x.toNat : Int) / 16777216), Value.int .u8 ((x.toNat : Int) / 65536 % 256), Value.int .u8 ((x.toNat : Int) / 256 % 256), Value.int .u8 ((x.toNat : Int) % 256)] = (zeB x).map vB := by
 have hx := zc1 x
 unfold zeB
 simp only [List.map_cons, List.map_nil, zkj]
 have e0 : ((x.toNat : Int) / 16777216) = ((x.toNat / 16777216 % 256 : Nat) : Int) := by omega
 rw [e0]
 simp
theorem zjl {L : List UInt32} {w wr w1 : World} {k : Nat} {x : UInt32} {u v : Value} {o : Obj} (hk : k < L.length) (ho : wr.ownsRow w.heap.size 5 1 u (zbx (L.take k)).length ((zbx (L.take k)).map vB))
  (hb : Below w.heap.size w wr) (HT : Hid (zbx (L.take (k + 1)) = zbx (L.take k) ++ zeB x)) (hg : (wr.alloc o).grownBy w1 u.ownBlock)
  (ho' : w1.ownsRow w.heap.size 5 1 v ((zbx (L.take k)).length + 4) ((zbx (L.take k)).map vB ++ [Value.int .u8 ((x.toNat : Int) / 16777216), Value.int .u8 ((x.toNat : Int) / 65536 % 256), Value.int .u8 ((x.toNat : Int) / 256 % 256), Value.int .u8 ((x.toNat : Int) % 256)])) :
  zkl L w v (.int .i64 ((k : Int) + 1)) w1 :=
 ⟨k + 1, by omega, by go_num, by rw [HT.out]; rw [zij, ← List.map_append] at ho'; simpa [zeB] using ho',
  (hb.alloc hb.size o).grown hg (by have := hb.size; simp; omega) (fun k hk => (ho.lt k hk).1)⟩
theorem zmt (L : List UInt32) (A : Option Addr) (cap : Nat) (w : World) (hr : Rd vW w A L) (hl : L.length ≤ 35184372087808) :
  Calls Tryz.prog 182 #[.slice A L.length cap] w (RetS vB w (zbx L)) := by
 obtain ⟨i0, hi, hz0, hz1, hz2⟩ := info_parts zcx
 go_enter Tryz.func182, Tryz.ntmps182
 go_wp2_with (at_make; refine wpList_make_own _ rfl _ _ 22 rfl w.heap.size 5 i0 (.int .u8 0) 1 Tryz.underlying22 hi hz0 hz1 .i64 .i64 _ (4 * L.length) rfl rfl (by omega) (by rw [hz2]; omega) (by unfold maxLen; omega) (Nat.le_refl _) ?_; intro w0 hown0 hgrow0)
 go_loopw [3, 12] (fun v i wr => zkl L w v i wr) (fun _ i _ => L.length - (intOf i).toNat)
 case atStart => exact ⟨0, Nat.zero_le _, rfl, hown0, (Below.refl _ _).grown hgrow0 (Nat.le_refl _) (by simp)⟩
 case round =>
  obtain ⟨k, hk, rfl, hown1, hbel1⟩ := hrel
  by_cases hlt : k < L.length
  ·obtain ⟨blk, o, rfl, hb, hcell⟩ := hr.at hlt
   have hc0 := hcell k hlt
   have HT := Lib.hid (zjk L k hlt)
   have hc : wr.cell? ⟨blk, o + k, none⟩ = some (.int .u32 (L[k].toNat : Int)) := by rw [hbel1.cell (p := ⟨blk, o + k, none⟩) hb]; exact hc0
   have hx := zc1 L[k]
   have hn : (zbx (L.take k)).length ≤ 4 * k := by rw [zeJ, List.length_take]; omega
   generalize L[k] = x at hc hx HT
   clear hcell hr hc0
   go_wp2_with (at_builtin; refine wpList_append_own _ rfl _ _ 22 rfl w.heap.size 5 i0 (.int .u8 0) 1 1 Tryz.underlying22 hi hz0 hz1 hz2 rfl (by decide) _ _ _ rfl (hown1.alloc _) ⟨wr.heap.size, 0, none⟩ 4 4 [Value.int .u8 ((x.toNat : Int) / 16777216), Value.int .u8 ((x.toNat : Int) / 65536 % 256), Value.int .u8 ((x.toNat : Int) / 256 % 256), Value.int .u8 ((x.toNat : Int) % 256)] rfl rfl (zh9 _ _ _) (by intro u hu; simp at hu; rcases hu with rfl | rfl | rfl | rfl <;> rfl) (by unfold maxLen; omega) (by omega) (by have := hbel1.size; simp; omega) ?_; intro v' w1 hown' hgrow' _)
   go_roundw
   case rel => exact zjl hlt hown1 hbel1 HT hgrow' hown'
   case measure => simp [intOf]; omega
  ·have HE : Hid (L.take k = L) := by unfold Hid; exact List.take_of_length_le (by omega)
   go_wp2_with fail
   go_ret
   rw [HE.out] at hown1
   exact RetS.own hown1 hbel1
def RetN {α : Type} (f : α → Value) (w : World) (l : List α) (e : Ending) (w' : World) : Prop :=
 ∃ A cap, e = .returned (.slice A l.length cap) ∧ l.length ≤ cap ∧ Rd f w' A l ∧ (∀ a, A = some a → w.heap.size ≤ a.block) ∧ Below w.heap.size w w'
theorem RetN.own {α : Type} {f : α → Value} {w w' : World} {l : List α} {e : TypeId} {v : Value} (h : w'.ownsRow w.heap.size e 1 v l.length (l.map f)) (hb : Below w.heap.size w w') : RetN f w l (.returned v) w' := by
 rcases h.2 with ⟨rfl, h0⟩ | ⟨g, cap, cur, rfl, hg, _, hc, _⟩
 ·have hl : l = [] := List.eq_nil_of_length_eq_zero h0
  subst hl
  exact ⟨none, 0, rfl, Nat.le_refl _, Rd.nil, (fun a h => by cases h), hb⟩
 ·exact ⟨_, cap, rfl, hc, Rd.own h, (fun a ha => by injection ha with ha; subst ha; exact hg), hb⟩
theorem zik (b : List UInt8) (A : Option Addr) (c : Nat) (w : World) (hr : Rd vB w A b) (hl : b.length ≤ 70368744177664) : Calls Tryz.prog 90 #[.slice A b.length c] w (RetO 5 vB w b) := by
 obtain ⟨i0, hi, hz0, hz1, hz2⟩ := info_parts zcx
 cases A with
 | none =>
  have hb : b = [] := by
   by_cases h : b = []
   ·exact h
   ·obtain ⟨_, _, e, _⟩ := hr h
    cases e
  subst hb
  have hnil : ∀ W, (binOp .eql 22 (.slice none 0 c) (.slice none 0 0)).run Tryz.prog W = .ok (.bool true) W := fun W => Lib.run_eql_slice_nil W _ _ none 0 c 0 0 Tryz.underlying22
  go_enter Tryz.func90, Tryz.ntmps90
  go_wp2_with fail
  go_ret
  exact ⟨_, rfl, World.ownsRow_nil _ _ _ _, Below.refl _ _⟩
 | some a =>
  have hnil : ∀ W, (binOp .eql 22 (.slice (some a) b.length c) (.slice none 0 0)).run Tryz.prog W = .ok (.bool false) W := fun W => Lib.run_eql_slice_nil W _ _ (some a) b.length c 0 0 Tryz.underlying22
  have hown0 : (w.alloc (.cells #[] 5)).ownsRow w.heap.size 5 1 (.slice (some ⟨w.heap.size, 0, none⟩) 0 0) 0 [] := World.ownsRow_made w #[] 0 (Nat.le_refl _) (by unfold maxLen; omega) rfl
  have hr0 : Rd vB (w.alloc (.cells #[] 5)) (some a) b := hr.keep (zak (Below.refl _ _) _)
  go_enter Tryz.func90, Tryz.ntmps90
  go_wp2_with (at_builtin; refine zcw _ rfl (.tmp 5) (.tmp 6) 22 rfl w.heap.size 5 i0 (.int .u8 0) 1 Tryz.underlying22 hi hz0 hz1 hz2 rfl _ _ _ rfl hown0 (some a) b c rfl hr0 zbt (by unfold maxLen; omega) (by omega) (by simp) ?_; intro v1 w1 hown1 hgrow1)
  go_ret
  rw [Nat.zero_add, List.nil_append] at hown1
  exact ⟨_, rfl, hown1, (zak (Below.refl _ w) _).grown hgrow1 (by simp) (fun k hk => (hown0.lt k hk).1)⟩
theorem zmu (b : List UInt8) (A : Option Addr) (c : Nat) (w : World) (hr : Rd vB w A b) (hl : b.length ≤ 70368744177664) : Calls Tryz.prog 90 #[.slice A b.length c] w (RetN vB w b) :=
 (zik b A c w hr hl).mono fun e w' ⟨v, he, ho, hb⟩ => by subst he; exact RetN.own ho hb
theorem zod (n : Nat) (w : World) (hn : n ≤ 140737488355328) : Calls Tryz.prog 172 #[.slice none 0 0, .int .i64 (n : Int)] w (RetO 5 vB w []) := by
 obtain ⟨i0, hi, hz0, hz1, hz2⟩ := info_parts zcx
 by_cases h0 : n = 0
 ·subst h0
  go_enter Tryz.func172, Tryz.ntmps172
  go_wp2_with fail
  go_ret
  exact ⟨_, rfl, World.ownsRow_nil _ _ _ _, Below.refl _ _⟩
 ·have hp : (0 : Int) < (n : Int) := by omega
  have happ := Lib.run_append_nil_zeros (P := Tryz.prog) w 22 3 22 5 i0 (.int .u8 0) .i64 .i64 Tryz.underlying22 Tryz.underlying3 hi hz0 n (by omega) (by omega) (by omega) (by rw [hz2]; omega)
  have hge := grownCap_ge w n 0 5
  have hle := grownCap_le_maxLen w n 0 5 (by unfold maxLen; omega)
  generalize grownCap w n 0 5 = cap2 at happ hge hle
  have hZs : (Builtin.zeroCells (Value.int .u8 0).cells n ++ Builtin.zeroCells (Value.int .u8 0).cells (cap2 - n)).size = cap2 := by simp [size_zeroCells, Value.cells]; omega
  generalize (Builtin.zeroCells (Value.int .u8 0).cells n ++ Builtin.zeroCells (Value.int .u8 0).cells (cap2 - n)) = Z at happ hZs
  have HO : Hid ((w.drew.alloc (.cells Z 5)).ownsRow w.heap.size 5 1 (.slice (some ⟨w.heap.size, 0, none⟩) 0 cap2) 0 []) := World.ownsRow_made w.drew Z cap2 (Nat.le_refl _) hle (by rw [hZs, Nat.mul_one])
  have HB : Hid (Below w.heap.size w (w.drew.alloc (.cells Z 5))) := (Below.refl _ w).drew.alloc (Nat.le_refl _) _
  unfold maxLen at hle
  clear hZs hge
  go_enter Tryz.func172, Tryz.ntmps172
  go_wp2_with (at_builtin; refine Lib.wpList_append_run _ rfl (.tmp 20) (.tmp 21) _ _ rfl _ _ rfl rfl _ _ happ ?_)
  go_ret
  exact ⟨_, rfl, HO.out, HB.out⟩
structure Part where
 A : Option Addr
 cap : Nat
 l : List UInt8
def zeK (p : Part) : Value := .slice p.A p.l.length p.cap
def zc0 (ps : List Part) : List UInt8 := ps.flatMap (·.l)
theorem zgZ (ps : List Part) (k : Nat) (h : k < ps.length) : zc0 (ps.take (k + 1)) = zc0 (ps.take k) ++ ps[k].l := by
 unfold zc0
 rw [List.take_succ_eq_append_getElem h, List.flatMap_append]
 simp
theorem zhI (ps : List Part) (k : Nat) : (zc0 (ps.take k)).length ≤ (zc0 ps).length := by
 conv => rhs; rw [← List.take_append_drop k ps]
 unfold zc0
 rw [List.flatMap_append, List.length_append]
 omega
def zil (ps : List Part) (w : World) (v i : Value) (wr : World) : Prop :=
 ∃ k : Nat, k ≤ ps.length ∧ i = .int .i64 (k : Int) ∧ wr.ownsRow w.heap.size 5 1 v (zc0 (ps.take k)).length ((zc0 (ps.take k)).map vB) ∧ Below w.heap.size w wr
theorem zim {ps : List Part} {w wr w1 : World} {k : Nat} {u v : Value} {l : List UInt8} (hk : k < ps.length) (HF : Hid (zc0 (ps.take (k + 1)) = zc0 (ps.take k) ++ l)) (ho : wr.ownsRow w.heap.size 5 1 u (zc0 (ps.take k)).length ((zc0 (ps.take k)).map vB)) (hb : Below w.heap.size w wr)
  (ho' : w1.ownsRow w.heap.size 5 1 v ((zc0 (ps.take k)).length + l.length) ((zc0 (ps.take k)).map vB ++ l.map vB)) (hg : wr.grownBy w1 u.ownBlock) : zil ps w v (.int .i64 ((k : Int) + 1)) w1 :=
 ⟨k + 1, by omega, by go_num, by rw [HF.out, List.length_append, List.map_append]; exact ho', hb.grown hg hb.size (fun x hx => (ho.lt x hx).1)⟩
theorem zkW (ps : List Part) (A : Option Addr) (c : Nat) (w : World) (hr : Rd zeK w A ps) (hn : ps.length ≤ 9223372036854775807) (hp : ∀ p ∈ ps, Rd vB w p.A p.l) (hl : (zc0 ps).length ≤ 70368744177664) :
  Calls Tryz.prog 150 #[.slice A ps.length c] w (RetO 5 vB w (zc0 ps)) := by
 obtain ⟨i0, hi, hz0, hz1, hz2⟩ := info_parts zcx
 have HP := Lib.hid hp
 clear hp
 go_enter Tryz.func150, Tryz.ntmps150
 go_wp2_with fail
 go_loop [3, 11] (fun v i => ∃ k : Nat, k ≤ ps.length ∧ i = .int .i64 k ∧ v = .int .i64 ((zc0 (ps.take k)).length : Int)) (fun _ i => ps.length - (intOf i).toNat)
 case atStart => exact ⟨0, Nat.zero_le _, rfl, rfl⟩
 case round =>
  obtain ⟨k, hk, rfl, rfl⟩ := hrel
  have hle := zhI ps k
  by_cases hlt : k < ps.length
  ·obtain ⟨blk, o, rfl, hb, hcell⟩ := hr.at hlt
   have hc0 := hcell k hlt
   have HF := Lib.hid (congrArg List.length (zgZ ps k hlt))
   have hle2 := zhI ps (k + 1)
   rw [HF.out, List.length_append] at hle2
   rw [List.length_append] at HF
   generalize ps[k] = p at hc0 HF hle2
   unfold zeK at hc0
   clear hcell hr
   have i1 : (0 : Int) ≤ (k : Int) := by omega
   have i2 : (k : Int) < (ps.length : Int) := by omega
   go_wp2_with fail
   go_round
   case rel => exact ⟨k + 1, by omega, by go_num, by rw [HF.out]; go_num⟩
   case measure => simp [intOf]; omega
  ·have hkk : k = ps.length := by omega
   subst hkk
   have HT : Hid (zc0 (ps.take ps.length) = zc0 ps) := by unfold Hid; rw [List.take_length]
   rw [HT.out] at hle ⊢
   generalize hN : (zc0 ps).length = N at hl hle
   have HN := Lib.hid hN
   clear hN
   go_wp2_with fail
   refine (zod N _ (by omega)).mono ?_
   rintro e w1 ⟨v1, rfl, hown1, hb1⟩
   go_wp2_with fail
   go_loopw [6, 27] (fun v i wr => zil ps w v i wr) (fun _ i _ => ps.length - (intOf i).toNat)
   case atStart => exact ⟨0, Nat.zero_le _, rfl, hown1, hb1⟩
   case round =>
    clear hown1 hb1
    obtain ⟨k, hk, rfl, hown, hbel⟩ := hrel
    by_cases hlt : k < ps.length
    ·obtain ⟨blk, o, rfl, hb, hcell⟩ := hr.at hlt
     have hc0 : wr.cell? ⟨blk, o + k, none⟩ = some (zeK ps[k]) := (hbel.cell (p := ⟨blk, o + k, none⟩) hb).trans (hcell k hlt)
     have HF := Lib.hid (zgZ ps k hlt)
     have hpk := (HP.out ps[k] (List.getElem_mem hlt)).keep hbel
     have hle2 := zhI ps (k + 1)
     rw [HF.out, List.length_append, HN.out] at hle2
     generalize ps[k] = p at hc0 HF hle2 hpk
     unfold zeK at hc0
     clear hcell hr
     have i1 : (0 : Int) ≤ (k : Int) := by omega
     have i2 : (k : Int) < (ps.length : Int) := by omega
     go_wp2_with (at_builtin; refine zcw _ rfl (.tmp 31) (.tmp 32) 22 rfl w.heap.size 5 i0 (.int .u8 0) 1 Tryz.underlying22 hi hz0 hz1 hz2 rfl _ _ _ rfl hown p.A p.l p.cap rfl hpk zbt (by unfold maxLen; omega) (by omega) hbel.size ?_; intro v2 w2 hown2 hgrow2)
     go_roundw
     case rel => exact zim hlt HF hown hbel hown2 hgrow2
     case measure => simp [intOf]; omega
    ·have hkk : k = ps.length := by omega
     subst hkk
     rw [HT.out] at hown
     go_wp2_with fail
     go_ret
     exact ⟨_, rfl, hown, hbel⟩
theorem zgM (r b T : List UInt8) (A B : Option Addr) (c d g k : Nat) (w : World) (HT : Hid (T = r ++ b)) (hp : Rd zeK w (some ⟨g, 0, none⟩) [⟨A, c, r⟩, ⟨B, d, b⟩]) (hr : Rd vB w A r) (hb : Rd vB w B b) (hl : T.length ≤ 70368744177664) :
  Calls Tryz.prog 150 #[.slice (some ⟨g, 0, none⟩) 2 k] w (RetO 5 vB w T) := by
 have e : zc0 [⟨A, c, r⟩, ⟨B, d, b⟩] = T := by rw [HT.out]; simp [zc0]
 have := zkW [⟨A, c, r⟩, ⟨B, d, b⟩] (some ⟨g, 0, none⟩) k w hp (by simp) (fun p hp => by
  simp only [List.mem_cons, List.not_mem_nil, or_false] at hp
  rcases hp with rfl | rfl
  ·exact hr
  ·exact hb) (by rw [e]; exact hl)
 rw [e] at this
 exact this
theorem zbr {w w' : World} {base : Nat} {e : TypeId} {v : Value} {n : Nat} {xs : List Value} (h : w.ownsRow base e 1 v n xs) (hh : ∀ b, base ≤ b → b < w.heap.size → w'.heap[b]? = w.heap[b]?) : w'.ownsRow base e 1 v n xs := by
 refine ⟨h.1, ?_⟩
 rcases h.2 with h0 | ⟨g, cap, cur, hv, hg, hc, r⟩
 ·exact .inl h0
 ·exact .inr ⟨g, cap, cur, hv, hg, (hh g hg (Array.getElem?_eq_some_iff.1 hc).1).trans hc, r⟩
theorem zam {w w' : World} {base : Nat} {e : TypeId} {v : Value} {n : Nat} {xs : List Value} (h : w.ownsRow base e 1 v n xs) (hb : Below w.heap.size w w') : w'.ownsRow base e 1 v n xs := zbr h (fun b _ hb' => hb.block b hb')
theorem Rd.grown {α : Type} {f : α → Value} {w w' : World} {row : Option Nat} {A : Option Addr} {L : List α} (h : Rd f w A L) (hg : w.grownBy w' row) (hA : ∀ a, A = some a → row ≠ some a.block) : Rd f w' A L := fun hn => by
 obtain ⟨b, o, rfl, hc⟩ := h hn
 refine ⟨b, o, rfl, fun i hi => ?_⟩
 obtain ⟨_, _, _, _, h5⟩ := hg
 have hk := hc i hi
 have hlt : b < w.heap.size := World.block_lt_of_cell? w _ hk
 exact (World.cell?_of_block (w := w) (a := ⟨b, o + i, none⟩) (h5 b hlt (fun e => hA ⟨b, o, none⟩ rfl e.symm))).trans hk
theorem zbk {α : Type} {f : α → Value} {w : World} {base : Nat} {e : TypeId} {v : Value} {l : List α} (h : w.ownsRow base e 1 v l.length (l.map f)) : ∃ A cap, v = .slice A l.length cap ∧ l.length ≤ cap ∧ Rd f w A l := by
 rcases h.2 with ⟨rfl, h0⟩ | ⟨g, cap, cur, rfl, _, _, hc, _⟩
 ·have hl : l = [] := List.eq_nil_of_length_eq_zero h0
  subst hl
  exact ⟨none, 0, rfl, Nat.le_refl _, Rd.nil⟩
 ·exact ⟨_, cap, rfl, hc, Rd.own h⟩
theorem Row.range_part {w : World} {g : Nat} {t : TypeId} {l : List Value} (h : Row w g t l) (o : Nat) (m : List Value) (hm : (l.drop o).take m.length = m) : w.rangeAt g o m := fun j v hv => by
 have hj : j < m.length := (List.getElem?_eq_some_iff.1 hv).1
 have := congrArg (·[j]?) hm
 simp only [List.getElem?_take, List.getElem?_drop, hj, if_true] at this
 exact h.cell (this.trans hv)
theorem zkm {w : World} {base : Nat} {e : TypeId} {v : Value} {n : Nat} {xs : List Value} (h : w.ownsRow base e 1 v n xs) : ∃ A cap, v = .slice A n cap ∧ n ≤ cap := by
 rcases h.2 with ⟨rfl, rfl⟩ | ⟨g, cap, cur, rfl, _, _, hc, _⟩
 ·exact ⟨none, 0, rfl, Nat.le_refl _⟩
 ·exact ⟨_, cap, rfl, hc⟩
theorem zfb {u v : Value} (h : u.ownBlock = none ∨ u.ownBlock ≠ v.ownBlock) : v.ownBlock = none ∨ v.ownBlock ≠ u.ownBlock := by
 rcases h with h | h
 ·by_cases hv : v.ownBlock = none
  ·exact .inl hv
  ·exact .inr (by rw [h]; exact hv)
 ·exact .inr (Ne.symm h)
section
variable {P : Program} {ops : Array Oper} {Q : Exit → Act → World → Prop}
end
theorem Row.grown {w w' : World} {g : Nat} {t : TypeId} {l : List Value} {row : Option Nat} (h : Row w g t l) (hg : w.grownBy w' row) (hn : row ≠ some g) : Row w' g t l :=
 (hg.block g h.lt (fun e => hn e.symm)).trans h
theorem zhJ {w : World} {v v' : Value} {g : Nat} (h : v.ownBlock ≠ some g) (hg : g < w.heap.size) (hat : v'.ownBlock = v.ownBlock ∨ v'.ownBlock = some w.heap.size) : v'.ownBlock ≠ some g := by
 rcases hat with e | e
 ·rw [e]; exact h
 ·rw [e]
  intro h
  injection h with h
  omega
section
variable {P : Program} (w : World)
theorem zfE {α : Type} {f : α → Value} (base : Nat) (t ty e : TypeId) (i : TypeInfo) (z : Value) (bytes : Nat) (ht : P.underlying t = some (.slice e)) (hi : P.info? e = some i) (hz : i.zero = some z)
  (hsize : i.size = 1) (hby : i.bytes = bytes) (hzs : z.cells.size = 1) (v : Value) (n : Nat) (xs : List Value) (hown : w.ownsRow base e 1 v n xs)
  (A : Option Addr) (l : List α) (c : Nat) (hr : Rd f w A l) (h1 : ∀ x, (f x).oneCell' = true)
  (h63 : n + l.length ≤ maxLen) (hbytes : (n + l.length) * bytes ≤ 140737488355328) (hbase : base ≤ w.heap.size) :
  ∃ v' w', (Builtin.append_ #[t, t] ty #[v, .slice A l.length c]).run P w = .ok v' w' ∧ w'.ownsRow base e 1 v' (n + l.length) (xs ++ l.map f) ∧ w.grownBy w' v.ownBlock ∧ (v'.ownBlock = v.ownBlock ∨ v'.ownBlock = some w.heap.size) := by
 have hone : ∀ u ∈ l.map f, u.oneCell' = true := by
  intro u hu
  simp only [List.mem_map] at hu
  obtain ⟨x, _, rfl⟩ := hu
  exact h1 x
 by_cases hl : l = []
 ·subst hl
  cases A with
  | none => exact ⟨v, w, zcn w base t ty e i ht hi v n xs hown c, by simpa using hown, ⟨rfl, rfl, rfl, Nat.le_refl _, fun _ _ _ => rfl⟩, .inl rfl⟩
  | some ad =>
   obtain ⟨v', w', hrun, h2, h3, _, h4⟩ := run_append_own_at (P := P) w base t ty e i z 1 bytes ht hi hz hsize hby hzs (by omega) v n xs hown ad 0 c [] rfl (fun j u h => by simp at h) (fun u h => by simp at h) h63 hbytes hbase
   exact ⟨v', w', hrun, h2, h3, h4⟩
 ·obtain ⟨b, o, rfl, _⟩ := hr hl
  obtain ⟨v', w', hrun, h2, h3, _, h4⟩ := run_append_own_at (P := P) w base t ty e i z 1 bytes ht hi hz hsize hby hzs (by omega) v n xs hown ⟨b, o, none⟩ l.length c (l.map f) (by simp) hr.news hone h63 hbytes hbase
  exact ⟨v', w', hrun, h2, h3, h4⟩
theorem zdO {α : Type} {f : α → Value} {o : Oper} {a : Act} {K : Act → World → Prop} {Q : Exit → Act → World → Prop} (s x : Operand) (t : TypeId)
  (ho : o.op = .call { callee := .builtin .append, args := #[s, x], argTypes := #[t, t] })
  (base : Nat) (e : TypeId) (i : TypeInfo) (z : Value) (bytes : Nat) (ht : P.underlying t = some (.slice e)) (hi : P.info? e = some i) (hz : i.zero = some z)
  (hsize : i.size = 1) (hby : i.bytes = bytes) (hzs : z.cells.size = 1) (v : Value) (n : Nat) (xs : List Value) (hs : a.eval s = v) (hown : w.ownsRow base e 1 v n xs)
  (A : Option Addr) (l : List α) (c : Nat) (hx : a.eval x = .slice A l.length c) (hr : Rd f w A l) (h1 : ∀ x, (f x).oneCell' = true)
  (h63 : n + l.length ≤ maxLen) (hbytes : (n + l.length) * bytes ≤ 140737488355328) (hbase : base ≤ w.heap.size)
  (h : ∀ v' w', w'.ownsRow base e 1 v' (n + l.length) (xs ++ l.map f) → w.grownBy w' v.ownBlock → (v'.ownBlock = v.ownBlock ∨ v'.ownBlock = some w.heap.size) → K (a.put o.dst v') w') : o.wp P a w K Q := by
 obtain ⟨v', w', hr, h2, h3, h4⟩ := zfE (P := P) w base t o.type e i z bytes ht hi hz hsize hby hzs v n xs hown A l c hr h1 h63 hbytes hbase
 unfold Oper.wp execOp
 simp only [ho, resolve, invoke, builtin, Sem.run_bind, Sem.run_pure, Result.andThen_ok, List.map_toArray, List.map_cons, List.map_nil, hs, hx, hr]
 exact h v' w' h2 h3 h4
theorem zao {α : Type} {f : α → Value} {ops : Array Oper} {rest : List Oper} {o : Oper} {a : Act} {Q : Exit → Act → World → Prop} (hgd : o.guard = none) (s x : Operand) (t : TypeId)
  (ho : o.op = .call { callee := .builtin .append, args := #[s, x], argTypes := #[t, t] })
  (base : Nat) (e : TypeId) (i : TypeInfo) (z : Value) (bytes : Nat) (ht : P.underlying t = some (.slice e)) (hi : P.info? e = some i) (hz : i.zero = some z)
  (hsize : i.size = 1) (hby : i.bytes = bytes) (hzs : z.cells.size = 1) (v : Value) (n : Nat) (xs : List Value) (hs : a.eval s = v) (hown : w.ownsRow base e 1 v n xs)
  (A : Option Addr) (l : List α) (c : Nat) (hx : a.eval x = .slice A l.length c) (hr : Rd f w A l) (h1 : ∀ x, (f x).oneCell' = true)
  (h63 : n + l.length ≤ maxLen) (hbytes : (n + l.length) * bytes ≤ 140737488355328) (hbase : base ≤ w.heap.size)
  (h : ∀ v' w', w'.ownsRow base e 1 v' (n + l.length) (xs ++ l.map f) → w.grownBy w' v.ownBlock → (v'.ownBlock = v.ownBlock ∨ v'.ownBlock = some w.heap.size) → wpList P ops Q rest (a.put o.dst v') w') : wpList P ops Q (o :: rest) a w :=
 wpList_plain hgd fun _ hK => zdO w s x t ho base e i z bytes ht hi hz hsize hby hzs v n xs hs hown A l c hx hr h1 h63 hbytes hbase fun v' w' h2 h3 h4 => hK _ _ (h v' w' h2 h3 h4)
end
end Go.Proofs.YteljklkgdejhpaaGreatDoor
namespace Go.Proofs.YteljklkgdejhpaaGreatDoor
end Go.Proofs.YteljklkgdejhpaaGreatDoor
namespace Go.Proofs.YteljklkgdejhpaaGreatDoor
open Go.RowKit
structure Only (g : Nat) (w w' : World) : Prop where
 below : Below g w w'
 other : ∀ b, b ≠ g → b < w.heap.size → w'.heap[b]? = w.heap[b]?
theorem Only.refl (g : Nat) (w : World) : Only g w w := ⟨Below.refl _ _, fun _ _ _ => rfl⟩
theorem Only.trans {g : Nat} {a b c : World} (h : Only g a b) (k : Only g b c) : Only g a c :=
 ⟨h.below.trans k.below, fun x hx hl => (k.other x hx (Nat.lt_of_lt_of_le hl h.below.size)).trans (h.other x hx hl)⟩
theorem Only.drew {g : Nat} {a w : World} (h : Only g a w) : Only g a w.drew := ⟨h.below.drew, h.other⟩
theorem Only.setCell {g : Nat} {a w : World} (h : Only g a w) (i : Nat) (v : Value) : Only g a (w.setCell ⟨g, i, none⟩ v) :=
 ⟨h.below.setCell (p := ⟨g, i, none⟩) (Nat.le_refl _) v, fun b hb hl => (Below.heap_setCell w ⟨g, i, none⟩ v b hb).trans (h.other b hb hl)⟩
theorem Only.later {g : Nat} {w w' : World} (h : Below w.heap.size w w') (hg : g ≤ w.heap.size) : Only g w w' := ⟨h.mono hg, fun b _ hl => h.block b hl⟩
theorem Rd.only {α : Type} {f : α → Value} {g : Nat} {w w' : World} {A : Option Addr} {l : List α} (h : Rd f w A l) (k : Only g w w') (hA : l ≠ [] → ∀ a, A = some a → a.block ≠ g) : Rd f w' A l := fun hn => by
 obtain ⟨b, o, rfl, hc⟩ := h hn
 refine ⟨b, o, rfl, fun i hi => ?_⟩
 have h1 := hc i hi
 exact (World.cell?_of_block (w := w) (a := ⟨b, o + i, none⟩) (k.other b (hA hn _ rfl) (World.block_lt_of_cell? w _ h1))).trans h1
theorem Rd.off {α : Type} {f : α → Value} {w : World} {A : Option Addr} {l : List α} (h : Rd f w A l) : l ≠ [] → ∀ a, A = some a → a.block < w.heap.size := fun hn a ha => by
 obtain ⟨b, o, e1, hcell⟩ := h hn
 rw [ha] at e1
 injection e1 with e1
 subst e1
 exact World.block_lt_of_cell? w _ (hcell 0 (List.length_pos_iff.2 hn))
theorem Only.setRow {g : Nat} {a w : World} (h : Only g a w) (cs : Array Value) : Only g a (w.setRow g cs) :=
 ⟨below_setRow h.below (Nat.le_refl _) cs, fun b hb hl => (Go.setRow_other w g b cs hb).trans (h.other b hb hl)⟩
theorem Row.only {g q : Nat} {w w' : World} {t : TypeId} {l : List Value} (h : Row w q t l) (k : Only g w w') (hq : q ≠ g) : Row w' q t l := (k.other q hq h.lt).trans h
theorem zat (w : World) (ty : TypeId) (l : List Value) (cs : Array Value) (h : cs = l.toArray) : Row (w.alloc (.cells cs ty)) w.heap.size ty l ∧ Below w.heap.size w (w.alloc (.cells cs ty)) := ⟨Row.new w ty _ _ h, zak (Below.refl _ _) _⟩
section
variable {w w' : World} {g : Nat} {e : TypeId} {l : List UInt8}
end
def strL (l : List UInt8) : ByteArray := ⟨l.toArray⟩
theorem zf3 (l : List UInt8) : (strL l).toList = l := by unfold strL; exact ByteArray.toList_mk l
theorem zf4 (w : World) (e : TypeId) (l : List Value) (cs : Array Value) (h : cs = l.toArray) (hm : l.length ≤ maxLen) : (w.alloc (.cells cs e)).ownsRow w.heap.size e 1 (.slice (some ⟨w.heap.size, 0, none⟩) l.length l.length) l.length l :=
 ⟨by simp, .inr ⟨w.heap.size, l.length, cs, rfl, Nat.le_refl _, heap_alloc_new w _, Nat.le_refl _, hm, by subst h; simp, by subst h; simp⟩⟩
theorem zmv (a b : List UInt8) (S : Bool) (h : (a = b) ↔ S = true) : ((strL a).toList == (strL b).toList) = S := by
 rw [zf3, zf3, Bool.eq_iff_iff, beq_iff_eq]
 exact h
structure WD where
 A0 : Option Addr
 n0 : Nat
 c0 : Nat
 A1 : Option Addr
 n1 : Nat
 c1 : Nat
def zdi (x : WD) (D : DK) : List Value := [.slice x.A0 x.n0 x.c0, .int .i64 D.a0.s, .slice x.A1 x.n1 x.c1, .int .i64 D.a1.s, .int .i64 D.fuse, .int .i64 D.keep, .bool D.down]
def aggD (x : WD) (D : DK) : Value := .agg #[.slice x.A0 x.n0 x.c0, .int .i64 D.a0.s, .slice x.A1 x.n1 x.c1, .int .i64 D.a1.s, .int .i64 D.fuse, .int .i64 D.keep, .bool D.down]
structure InD (w : World) (x : WD) (D : DK) : Prop where
 l0 : D.a0.b.length = x.n0
 h0 : x.n0 ≤ x.c0
 r0 : Rd vB w x.A0 D.a0.b
 l1 : D.a1.b.length = x.n1
 h1 : x.n1 ≤ x.c1
 r1 : Rd vB w x.A1 D.a1.b
theorem InD.keep {w w' : World} {x : WD} {D : DK} (h : InD w x D) (hb : Below w.heap.size w w') : InD w' x D := ⟨h.l0, h.h0, h.r0.keep hb, h.l1, h.h1, h.r1.keep hb⟩
def FreshD (B : Nat) (x : WD) : Prop := (∀ a, x.A0 = some a → B ≤ a.block) ∧ ∀ a, x.A1 = some a → B ≤ a.block
theorem FreshD.mono {B C : Nat} {x : WD} (h : FreshD C x) (hc : B ≤ C) : FreshD B x := ⟨fun a ha => Nat.le_trans hc (h.1 a ha), fun a ha => Nat.le_trans hc (h.2 a ha)⟩
theorem zdc (A : Option Addr) (n c : Nat) (x : UInt8) : Value.slice A n c ≠ vB x := fun h => by unfold vB at h; cases h
theorem zhK (b : Bool) (x : UInt8) : Value.bool b ≠ vB x := fun h => by unfold vB at h; cases h
theorem zcp (n : Int) (x : UInt8) : Value.int .i64 n ≠ vB x := fun h => by unfold vB at h; injection h with h; cases h
theorem Rd.no_byte {w w' : World} {A : Option Addr} {L : List UInt8} (h : Rd vB w A L) {g : Nat} {t : TypeId} {l : List Value} (hR : Row w g t l) (hl : ∀ v ∈ l, ∀ x, v ≠ vB x) (k : Only g w w') : Rd vB w' A L :=
 h.only k (fun hn a ha => by
  obtain ⟨b, o, e, hc⟩ := h hn
  rw [ha] at e
  injection e with e
  subst e
  intro hb
  have hb' : b = g := hb
  subst hb'
  have h1 := hc 0 (List.length_pos_iff.2 hn)
  rw [hR.cell? (o + 0)] at h1
  exact hl _ (List.mem_of_getElem? h1) _ rfl)
theorem zeL (x : WD) (D : DK) : ∀ v ∈ zdi x D, ∀ y, v ≠ vB y := fun v hv y => by
 simp [zdi] at hv
 rcases hv with rfl | rfl | rfl | rfl | rfl | rfl | rfl
 ·exact zdc _ _ _ y
 ·exact zcp _ y
 ·exact zdc _ _ _ y
 ·exact zcp _ y
 ·exact zcp _ y
 ·exact zcp _ y
 ·exact zhK _ y
theorem InD.no_byte {w w' : World} {x : WD} {D : DK} (h : InD w x D) {g : Nat} {t : TypeId} {l : List Value} (hR : Row w g t l) (hl : ∀ v ∈ l, ∀ x, v ≠ vB x) (k : Only g w w') : InD w' x D := ⟨h.l0, h.h0, h.r0.no_byte hR hl k, h.l1, h.h1, h.r1.no_byte hR hl k⟩
def zkn (A : Option Addr) (n c : Nat) (s : Int) : List Value := [.slice A n c, .int .i64 s]
def aggA (A : Option Addr) (n c : Nat) (s : Int) : Value := .agg #[.slice A n c, .int .i64 s]
theorem zin (A : Option Addr) (n c : Nat) (s : Int) : ∀ v ∈ zkn A n c s, ∀ y, v ≠ vB y := fun v hv y => by
 simp [zkn] at hv
 rcases hv with rfl | rfl
 ·exact zdc _ _ _ y
 ·exact zcp _ y
def RetD (w : World) (D : DK) (er : Int) (e : Ending) (w' : World) : Prop := ∃ x, e = .returned (.tuple #[aggD x D, .int .i64 er]) ∧ InD w' x D ∧ FreshD w.heap.size x ∧ Below w.heap.size w w'
theorem zaj : (Tryz.prog.info? 27).map (·.size) = some 7 := by kernel_rfl
theorem zau : (Tryz.prog.info? 24).map (·.size) = some 2 := by kernel_rfl
theorem za7 (x : WD) (D : DK) : ∀ v ∈ zdi x D, v.oneCell' = true := fun v hv => by
 simp [zdi] at hv
 rcases hv with rfl | rfl | rfl | rfl | rfl | rfl | rfl <;> rfl
theorem zaN (A : Option Addr) (n c : Nat) (s : Int) : ∀ v ∈ zkn A n c s, v.oneCell' = true := fun v hv => by
 simp [zkn] at hv
 rcases hv with rfl | rfl <;> rfl
theorem zdv (a b c d : Value) (W : World) : (Instr.index 25 (.agg #[a, b, c, d]) (.int .i64 0)).run Tryz.prog W = .ok (.agg #[a, b]) W := by kernel_rfl
theorem zdw (a b c d : Value) (W : World) : (Instr.index 25 (.agg #[a, b, c, d]) (.int .i64 1)).run Tryz.prog W = .ok (.agg #[c, d]) W := by kernel_rfl
theorem zdx (x : WD) (D : DK) (w : World) (h : InD w x D) : Calls Tryz.prog 35 #[aggD x D] w fun e w' => e = .returned (.bool (decide (zaA D))) ∧ Below w.heap.size w w' := by
 obtain ⟨A0, n0, c0, A1, n1, c1⟩ := x
 obtain ⟨⟨b0, s0⟩, ⟨b1, s1⟩, f, k, d⟩ := D
 obtain ⟨l0, h0, r0, l1, h1, r1⟩ := h
 dsimp only at l0 h0 l1 h1
 unfold aggD
 dsimp only
 have HR : Hid (decide (zaA ⟨⟨b0, s0⟩, ⟨b1, s1⟩, f, k, d⟩) = true ↔ (0 ≤ s0 ∧ s0 ≤ n0 ∧ n0 ≤ 1048576) ∧ (0 ≤ s1 ∧ s1 ≤ n1 ∧ n1 ≤ 1048576) ∧ -1 ≤ f ∧ 0 ≤ k) := by
  unfold Hid
  rw [decide_eq_true_iff]
  unfold zaA zaS
  dsimp only
  rw [l0, l1]
 generalize decide (zaA ⟨⟨b0, s0⟩, ⟨b1, s1⟩, f, k, d⟩) = R at HR ⊢
 clear l0 l1 r0 r1 h0 h1
 obtain ⟨hR0, hB0⟩ := zat w 27 [.slice A0 n0 c0, .int .i64 s0, .slice A1 n1 c1, .int .i64 s1, .int .i64 f, .int .i64 k, .bool d] _ rfl
 go_enter Tryz.func35, Tryz.ntmps35
 go_upto_region 1 with fail
 generalize w.alloc (.cells [Value.slice A0 n0 c0, .int .i64 s0, .slice A1 n1 c1, .int .i64 s1, .int .i64 f, .int .i64 k, .bool d].toArray 27) = W at hR0 hB0 ⊢
 have e0 : W.cell? ⟨w.heap.size, 0, none⟩ = some (.slice A0 n0 c0) := hR0.cell rfl
 have e1 : W.cell? ⟨w.heap.size, 1, none⟩ = some (.int .i64 s0) := hR0.cell rfl
 have e2 : W.cell? ⟨w.heap.size, 2, none⟩ = some (.slice A1 n1 c1) := hR0.cell rfl
 have e3 : W.cell? ⟨w.heap.size, 3, none⟩ = some (.int .i64 s1) := hR0.cell rfl
 go_wp2_with fail
 refine wp_loop_rounds 3 ?_
 rw [rounds_succ]
 obtain ⟨hR1, hB1⟩ := zat W 24 [.slice none 0 0, .int .i64 0] _ rfl
 have ix0 := zdv (.slice A0 n0 c0) (.int .i64 s0) (.slice A1 n1 c1) (.int .i64 s1)
 have ix1 := zdw (.slice A0 n0 c0) (.int .i64 s0) (.slice A1 n1 c1) (.int .i64 s1)
 go_upto_region 4 with (refine zab rfl 24 (.tmp 4) (.tmp 9) rfl W.heap.size rfl [.slice A0 n0 c0, .int .i64 s0] rfl _ _ hR1 (by exact zau) rfl (zaN A0 n0 c0 s0) ?_)
 have hR2 := hR1.setRow [.slice A0 n0 c0, .int .i64 s0]
 have hne : w.heap.size ≠ W.heap.size := by have := hR0.lt; omega
 replace hR0 := hR0.later hB1
 replace hR0 := hR0.setRow_other hne #[.slice A0 n0 c0, .int .i64 s0]
 replace hB0 := below_setRow (zaa hB0 hB1) (show w.heap.size ≤ W.heap.size by have := hB0.size; omega) #[.slice A0 n0 c0, .int .i64 s0]
 clear hR1 hB1 e0 e1 e2 e3
 generalize (W.alloc (.cells #[Value.slice none 0 0, .int .i64 0] 24)).setRow W.heap.size #[.slice A0 n0 c0, .int .i64 s0] = W2 at hR0 hR2 hB0 ⊢
 have e0 : W2.cell? ⟨W.heap.size, 0, none⟩ = some (.slice A0 n0 c0) := hR2.cell rfl
 have e1 : W2.cell? ⟨W.heap.size, 1, none⟩ = some (.int .i64 s0) := hR2.cell rfl
 by_cases p0 : 0 ≤ s0 ∧ s0 ≤ (n0 : Int) ∧ n0 ≤ 1048576
 ·obtain ⟨q0, q1, q2⟩ := p0
  have q3 : (n0 : Int) ≤ 1048576 := by omega
  have HR2 : Hid (R = true ↔ (0 ≤ s1 ∧ s1 ≤ (n1 : Int) ∧ n1 ≤ 1048576) ∧ -1 ≤ f ∧ 0 ≤ k) := by
   unfold Hid
   rw [HR.out]
   exact ⟨fun h => h.2, fun h => ⟨⟨q0, q1, q2⟩, h⟩⟩
  go_wp2_with fail
  rw [rounds_succ]
  clear e0 e1 hR2 HR q0 q1 q2 q3
  obtain ⟨hR1, hB1⟩ := zat W2 24 [.slice none 0 0, .int .i64 0] _ rfl
  go_upto_region 4 with (refine zab rfl 24 (.tmp 4) (.tmp 9) rfl W2.heap.size rfl [.slice A1 n1 c1, .int .i64 s1] rfl _ _ hR1 (by exact zau) rfl (zaN A1 n1 c1 s1) ?_)
  have hR2 := hR1.setRow [.slice A1 n1 c1, .int .i64 s1]
  have hne2 : w.heap.size ≠ W2.heap.size := by have := hR0.lt; omega
  replace hR0 := (hR0.later hB1).setRow_other hne2 #[.slice A1 n1 c1, .int .i64 s1]
  replace hB0 := below_setRow (zaa hB0 hB1) (show w.heap.size ≤ W2.heap.size by have := hB0.size; omega) #[.slice A1 n1 c1, .int .i64 s1]
  clear hR1 hB1
  generalize (W2.alloc (.cells #[Value.slice none 0 0, .int .i64 0] 24)).setRow W2.heap.size #[.slice A1 n1 c1, .int .i64 s1] = W3 at hR0 hR2 hB0 ⊢
  have e0 : W3.cell? ⟨W2.heap.size, 0, none⟩ = some (.slice A1 n1 c1) := hR2.cell rfl
  have e1 : W3.cell? ⟨W2.heap.size, 1, none⟩ = some (.int .i64 s1) := hR2.cell rfl
  have e4 : W3.cell? ⟨w.heap.size, 4, none⟩ = some (.int .i64 f) := hR0.cell rfl
  have e5 : W3.cell? ⟨w.heap.size, 5, none⟩ = some (.int .i64 k) := hR0.cell rfl
  by_cases p1 : 0 ≤ s1 ∧ s1 ≤ (n1 : Int) ∧ n1 ≤ 1048576
  ·obtain ⟨q0, q1, q2⟩ := p1
   have q3 : (n1 : Int) ≤ 1048576 := by omega
   have HR3 : Hid (R = decide (-1 ≤ f ∧ 0 ≤ k)) := by
    unfold Hid
    rw [Bool.eq_iff_iff, HR2.out, decide_eq_true_iff]
    exact ⟨fun h => h.2, fun h => ⟨⟨q0, q1, q2⟩, h⟩⟩
   clear HR2
   by_cases pf : -1 ≤ f
   ·have HR4 : Hid (R = decide (0 ≤ k)) := by unfold Hid; rw [HR3.out]; simp [pf]
    go_wp2_with fail
    rw [rounds_succ]
    go_wp2_with fail
    go_ret
    exact ⟨by rw [HR4.out]; rfl, hB0⟩
   ·have HR4 : Hid (R = false) := by unfold Hid; rw [HR3.out]; simp [pf]
    go_wp2_with fail
    rw [rounds_succ]
    go_wp2_with fail
    go_ret
    exact ⟨by rw [HR4.out]; rfl, hB0⟩
  ·have HR4 : Hid (R = false) := by
    unfold Hid
    rw [Bool.eq_false_iff]
    intro h
    exact p1 (HR2.out.1 h).1
   by_cases q0 : s1 < 0
   ·clear p1 HR2
    go_wp2_with fail
    go_ret
    exact ⟨by rw [HR4.out]; rfl, hB0⟩
   ·by_cases q1 : (n1 : Int) < s1
    ·clear p1 HR2
     go_wp2_with fail
     go_ret
     exact ⟨by rw [HR4.out]; rfl, hB0⟩
    ·have q3 : (1048576 : Int) < (n1 : Int) := by omega
     have q4 : s1 ≤ (n1 : Int) := by omega
     have q5 : 0 ≤ s1 := by omega
     clear p1 HR2
     go_wp2_with fail
     go_ret
     exact ⟨by rw [HR4.out]; rfl, hB0⟩
 ·have HR4 : Hid (R = false) := by
   unfold Hid
   rw [Bool.eq_false_iff]
   intro h
   exact p0 (HR.out.1 h).1
  by_cases q0 : s0 < 0
  ·clear p0 HR
   go_wp2_with fail
   go_ret
   exact ⟨by rw [HR4.out]; rfl, hB0⟩
  ·by_cases q1 : (n0 : Int) < s0
   ·clear p0 HR
    go_wp2_with fail
    go_ret
    exact ⟨by rw [HR4.out]; rfl, hB0⟩
   ·have q3 : (1048576 : Int) < (n0 : Int) := by omega
    have q4 : s0 ≤ (n0 : Int) := by omega
    have q5 : 0 ≤ s0 := by omega
    clear p0 HR
    go_wp2_with fail
    go_ret
    exact ⟨by rw [HR4.out]; rfl, hB0⟩
theorem zg0 (n : Nat) (b : List UInt8) (A : Option Addr) (c : Nat) (w : World) (HN : Hid (b.length = n)) (hr : Rd vB w A b) (hl : n ≤ 70368744177664) :
  Calls Tryz.prog 90 #[.slice A n c] w fun e w' => ∃ A' c', e = .returned (.slice A' n c') ∧ n ≤ c' ∧ w'.ownsRow w.heap.size 5 1 (.slice A' n c') n (b.map vB) ∧ Below w.heap.size w w' := by
 have e := HN.out
 subst e
 refine (zik b A c w hr hl).mono ?_
 rintro e w' ⟨v, rfl, ho, hb⟩
 obtain ⟨A', c', rfl, hc⟩ := zkm ho
 exact ⟨A', c', rfl, hc, ho, hb⟩
theorem zkX {w : World} {B : Nat} {e : TypeId} {u v : Value} {n m : Nat} {xs ys : List Value} {w0 : World} {base : Nat} (h : w0.ownsRow base e 1 u n xs) (k : w.ownsRow w0.heap.size e 1 v m ys) : u.ownBlock = none ∨ u.ownBlock ≠ v.ownBlock := by
 by_cases hu : u.ownBlock = none
 ·exact .inl hu
 ·right
  intro he
  obtain ⟨g, hg⟩ := Option.ne_none_iff_exists'.1 hu
  have h1 := (h.lt g hg).2
  have h2 := (k.lt g (by rw [← he, hg])).1
  omega
theorem zc5 {w : World} {B C : Nat} {e : TypeId} {v : Value} {n : Nat} {xs : List Value} (h : w.ownsRow C e 1 v n xs) (hc : B ≤ C) : w.ownsRow B e 1 v n xs := by
 refine ⟨h.1, ?_⟩
 rcases h.2 with h0 | ⟨g, cap, cur, hv, hg, r⟩
 ·exact .inl h0
 ·exact .inr ⟨g, cap, cur, hv, Nat.le_trans hc hg, r⟩
def zpO (w : World) (D : DK) (e : Ending) (w' : World) : Prop :=
 ∃ x : WD, e = .returned (aggD x D) ∧ Hid (D.a0.b.length = x.n0) ∧ x.n0 ≤ x.c0 ∧ Hid (D.a1.b.length = x.n1) ∧ x.n1 ≤ x.c1 ∧ w'.ownsRow w.heap.size 5 1 (.slice x.A0 x.n0 x.c0) x.n0 (D.a0.b.map vB) ∧ w'.ownsRow w.heap.size 5 1 (.slice x.A1 x.n1 x.c1) x.n1 (D.a1.b.map vB) ∧
  ((Value.slice x.A0 x.n0 x.c0).ownBlock = none ∨ (Value.slice x.A0 x.n0 x.c0).ownBlock ≠ (Value.slice x.A1 x.n1 x.c1).ownBlock) ∧ Below w.heap.size w w'
theorem zeM (x : WD) (D : DK) (w : World) (h : InD w x D) (hn0 : x.n0 ≤ 70368744177664) (hn1 : x.n1 ≤ 70368744177664) : Calls Tryz.prog 55 #[aggD x D] w (zpO w D) := by
 obtain ⟨A0, n0, c0, A1, n1, c1⟩ := x
 obtain ⟨⟨b0, s0⟩, ⟨b1, s1⟩, f, k, d⟩ := D
 obtain ⟨l0, h0, r0, l1, h1, r1⟩ := h
 dsimp only at l0 h0 l1 h1 r0 r1 hn0 hn1
 have L0 := Lib.hid l0
 have L1 := Lib.hid l1
 clear l0 l1
 unfold aggD
 dsimp only
 obtain ⟨hR0, hB0⟩ := zat w 27 [.slice A0 n0 c0, .int .i64 s0, .slice A1 n1 c1, .int .i64 s1, .int .i64 f, .int .i64 k, .bool d] _ rfl
 obtain ⟨hRz, hBz⟩ := zat (w.alloc (.cells #[.slice A0 n0 c0, .int .i64 s0, .slice A1 n1 c1, .int .i64 s1, .int .i64 f, .int .i64 k, .bool d] 27)) 27 [.slice none 0 0, .int .i64 0, .slice none 0 0, .int .i64 0, .int .i64 0, .int .i64 0, .bool false] _ rfl
 have hz : (w.alloc (.cells #[.slice A0 n0 c0, .int .i64 s0, .slice A1 n1 c1, .int .i64 s1, .int .i64 f, .int .i64 k, .bool d] 27)).heap.size = w.heap.size + 1 := by simp
 rw [hz] at hRz
 replace hR0 := hR0.later hBz
 replace hB0 := zaa hB0 hBz
 clear hBz hz
 go_enter Tryz.func55, Tryz.ntmps55
 go_upto_region 1 with fail
 generalize (w.alloc (.cells #[.slice A0 n0 c0, .int .i64 s0, .slice A1 n1 c1, .int .i64 s1, .int .i64 f, .int .i64 k, .bool d] 27)).alloc (.cells #[.slice none 0 0, .int .i64 0, .slice none 0 0, .int .i64 0, .int .i64 0, .int .i64 0, .bool false] 27) = W at hR0 hRz hB0 ⊢
 replace r0 := r0.keep hB0
 replace r1 := r1.keep hB0
 have e0 : W.cell? ⟨w.heap.size, 0, none⟩ = some (.slice A0 n0 c0) := hR0.cell rfl
 have e1 : W.cell? ⟨w.heap.size, 1, none⟩ = some (.int .i64 s0) := hR0.cell rfl
 have e2 : W.cell? ⟨w.heap.size, 2, none⟩ = some (.slice A1 n1 c1) := hR0.cell rfl
 have e3 : W.cell? ⟨w.heap.size, 3, none⟩ = some (.int .i64 s1) := hR0.cell rfl
 have hs0 := hB0.size
 have hgz := hRz.lt
 go_wp2_with fail
 clear e0 e1 e2 e3
 refine wp_loop_rounds 3 ?_
 rw [rounds_succ]
 obtain ⟨hR1, hB1⟩ := zat W 24 [.slice none 0 0, .int .i64 0] _ rfl
 have ix0 := zdv (.slice A0 n0 c0) (.int .i64 s0) (.slice A1 n1 c1) (.int .i64 s1)
 have ix1 := zdw (.slice A0 n0 c0) (.int .i64 s0) (.slice A1 n1 c1) (.int .i64 s1)
 go_upto_region 4 with (refine zab rfl 24 (.tmp 4) (.tmp 10) rfl W.heap.size rfl [.slice A0 n0 c0, .int .i64 s0] rfl _ _ hR1 (by exact zau) rfl (zaN A0 n0 c0 s0) ?_)
 have hR2 := hR1.setRow [.slice A0 n0 c0, .int .i64 s0]
 have hB2 : Below W.heap.size W ((W.alloc (.cells #[Value.slice none 0 0, .int .i64 0] 24)).setRow W.heap.size #[.slice A0 n0 c0, .int .i64 s0]) := below_setRow hB1 (Nat.le_refl _) _
 clear hR1 hB1
 generalize (W.alloc (.cells #[Value.slice none 0 0, .int .i64 0] 24)).setRow W.heap.size #[.slice A0 n0 c0, .int .i64 s0] = W2 at hR2 hB2 ⊢
 have e0 : W2.cell? ⟨W.heap.size, 0, none⟩ = some (.slice A0 n0 c0) := hR2.cell rfl
 replace r0 := r0.keep hB2
 replace r1 := r1.keep hB2
 replace hR0 := hR0.later hB2
 replace hRz := hRz.later hB2
 replace hB0 := zaa hB0 hB2
 have hs2 := hB2.size
 clear hR2 hB2
 go_wp2_with fail
 refine (zg0 n0 b0 A0 c0 _ L0 r0 hn0).mono ?_
 rintro e w1 ⟨B0, d0, rfl, hd0, ho0, hb1⟩
 replace r1 := r1.keep hb1
 replace hR0 := hR0.later hb1
 replace hRz := hRz.later hb1
 replace hB0 := zaa hB0 hb1
 have hs1 := hb1.size
 have f0 := hR0.frozen 0
 have g0 : w1.cell? ⟨w.heap.size, 0, none⟩ = some (.slice A0 n0 c0) := hR0.cell rfl
 clear hb1 e0
 have hR0' : Row (w1.setCell ⟨w.heap.size, 0, none⟩ (.slice B0 n0 d0)) w.heap.size 27 [.slice B0 n0 d0, .int .i64 s0, .slice A1 n1 c1, .int .i64 s1, .int .i64 f, .int .i64 k, .bool d] := hR0.setCell 0 _
 have hO : Only w.heap.size w1 (w1.setCell ⟨w.heap.size, 0, none⟩ (.slice B0 n0 d0)) := (Only.refl _ w1).setCell 0 _
 have r1' := r1.no_byte hR0 (zeL ⟨A0, n0, c0, A1, n1, c1⟩ ⟨⟨b0, s0⟩, ⟨b1, s1⟩, f, k, d⟩) hO
 have hRz' := hRz.setCell_other (p := ⟨w.heap.size, 0, none⟩) (by show w.heap.size + 1 ≠ w.heap.size; omega) (.slice B0 n0 d0)
 have ho0' := zbr (w' := w1.setCell ⟨w.heap.size, 0, none⟩ (.slice B0 n0 d0)) ho0 (fun b hb _ => Below.heap_setCell w1 ⟨w.heap.size, 0, none⟩ _ b (by show b ≠ w.heap.size; omega))
 have hB0' : Below w.heap.size w (w1.setCell ⟨w.heap.size, 0, none⟩ (.slice B0 n0 d0)) := hB0.setCell (p := ⟨w.heap.size, 0, none⟩) (Nat.le_refl _) _
 go_wp2_with fail
 rw [rounds_succ]
 clear r1 hRz ho0 hB0 hR0 f0 g0 hO ix0
 have hsz : w1.heap.size ≤ (w1.setCell ⟨w.heap.size, 0, none⟩ (.slice B0 n0 d0)).heap.size := by simp
 generalize w1.setCell ⟨w.heap.size, 0, none⟩ (.slice B0 n0 d0) = W at hR0' r1' hRz' ho0' hB0' hsz ⊢
 have hgz := hRz'.lt
 obtain ⟨hR1, hB1⟩ := zat W 24 [.slice none 0 0, .int .i64 0] _ rfl
 go_upto_region 4 with (refine zab rfl 24 (.tmp 4) (.tmp 10) rfl W.heap.size rfl [.slice A1 n1 c1, .int .i64 s1] rfl _ _ hR1 (by exact zau) rfl (zaN A1 n1 c1 s1) ?_)
 have hR2 := hR1.setRow [.slice A1 n1 c1, .int .i64 s1]
 have hB2 : Below W.heap.size W ((W.alloc (.cells #[Value.slice none 0 0, .int .i64 0] 24)).setRow W.heap.size #[.slice A1 n1 c1, .int .i64 s1]) := below_setRow hB1 (Nat.le_refl _) _
 clear hR1 hB1
 generalize (W.alloc (.cells #[Value.slice none 0 0, .int .i64 0] 24)).setRow W.heap.size #[.slice A1 n1 c1, .int .i64 s1] = W4 at hR2 hB2 ⊢
 have e0 : W4.cell? ⟨W.heap.size, 0, none⟩ = some (.slice A1 n1 c1) := hR2.cell rfl
 replace r1' := r1'.keep hB2
 replace hR0' := hR0'.later hB2
 replace hRz' := hRz'.later hB2
 replace ho0' := zam ho0' hB2
 replace hB0' := zaa hB0' hB2
 have hs4 := hB2.size
 clear hR2 hB2
 go_wp2_with fail
 refine (zg0 n1 b1 A1 c1 _ L1 r1' hn1).mono ?_
 rintro e w3 ⟨B1, d1, rfl, hd1, ho1, hb1⟩
 have hap := zkX (B := 0) ho0' ho1
 replace hR0' := hR0'.later hb1
 replace hRz' := hRz'.later hb1
 replace ho0' := zam ho0' hb1
 replace hB0' := zaa hB0' hb1
 have hs1 := hb1.size
 have f0 := hR0'.frozen 2
 have g0 : w3.cell? ⟨w.heap.size, 2, none⟩ = some (.slice A1 n1 c1) := hR0'.cell rfl
 clear hb1 e0 r1'
 have hR0 : Row (w3.setCell ⟨w.heap.size, 2, none⟩ (.slice B1 n1 d1)) w.heap.size 27 [.slice B0 n0 d0, .int .i64 s0, .slice B1 n1 d1, .int .i64 s1, .int .i64 f, .int .i64 k, .bool d] := hR0'.setCell 2 _
 have hRz := hRz'.setCell_other (p := ⟨w.heap.size, 2, none⟩) (by show w.heap.size + 1 ≠ w.heap.size; omega) (.slice B1 n1 d1)
 have hX0 := zbr (w' := w3.setCell ⟨w.heap.size, 2, none⟩ (.slice B1 n1 d1)) ho0' (fun b hb _ => Below.heap_setCell w3 ⟨w.heap.size, 2, none⟩ _ b (by show b ≠ w.heap.size; omega))
 have hX1 := zbr (w' := w3.setCell ⟨w.heap.size, 2, none⟩ (.slice B1 n1 d1)) ho1 (fun b hb _ => Below.heap_setCell w3 ⟨w.heap.size, 2, none⟩ _ b (by show b ≠ w.heap.size; omega))
 have hB0 : Below w.heap.size w (w3.setCell ⟨w.heap.size, 2, none⟩ (.slice B1 n1 d1)) := hB0'.setCell (p := ⟨w.heap.size, 2, none⟩) (Nat.le_refl _) _
 go_wp2_with fail
 rw [rounds_succ]
 clear hRz' ho0' hB0' hR0' f0 g0 ix1
 generalize w3.setCell ⟨w.heap.size, 2, none⟩ (.slice B1 n1 d1) = W5 at hR0 hRz hX0 hX1 hB0 ⊢
 go_wp2_with (first
  | (refine zac rfl 27 (.tmp 1) rfl w.heap.size 0 rfl _ _ hR0 [.slice B0 n0 d0, .int .i64 s0, .slice B1 n1 d1, .int .i64 s1, .int .i64 f, .int .i64 k, .bool d] (by rfl) _ Tryz.underlying27 rfl (by exact zaj) ?_)
  | (refine zab rfl 27 (.tmp 2) (.tmp 19) rfl (w.heap.size + 1) rfl [.slice B0 n0 d0, .int .i64 s0, .slice B1 n1 d1, .int .i64 s1, .int .i64 f, .int .i64 k, .bool d] rfl _ _ hRz (by exact zaj) rfl (za7 ⟨B0, n0, d0, B1, n1, d1⟩ ⟨⟨b0, s0⟩, ⟨b1, s1⟩, f, k, d⟩) ?_))
 refine bodyPost_ret (results_cell_row (p := 2) (ty := 27) (by rfl) _ _ (w.heap.size + 1) 27 _ (0, 0) _ (by rfl) (by exact hRz.setRow _) Tryz.underlying27 (by rfl) (by exact zaj)) (by rfl) ?_
 have hbs := below_setRow (Below.refl (w.heap.size + 1) W5) (Nat.le_refl _) [.slice B0 n0 d0, .int .i64 s0, .slice B1 n1 d1, .int .i64 s1, .int .i64 f, .int .i64 k, .bool d].toArray
 have hY0 := zc5 (zbr (w' := W5.setRow (w.heap.size + 1) [.slice B0 n0 d0, .int .i64 s0, .slice B1 n1 d1, .int .i64 s1, .int .i64 f, .int .i64 k, .bool d].toArray) hX0 (fun b hb _ => Go.setRow_other W5 _ b _ (by omega))) (show w.heap.size ≤ W2.heap.size by omega)
 have hY1 := zc5 (zbr (w' := W5.setRow (w.heap.size + 1) [.slice B0 n0 d0, .int .i64 s0, .slice B1 n1 d1, .int .i64 s1, .int .i64 f, .int .i64 k, .bool d].toArray) hX1 (fun b hb _ => Go.setRow_other W5 _ b _ (by omega))) (show w.heap.size ≤ W4.heap.size by omega)
 exact ⟨⟨B0, n0, d0, B1, n1, d1⟩, rfl, L0, hd0, L1, hd1, hY0, hY1, hap, below_setRow hB0 (by omega) _⟩
theorem zdP {w : World} {B : Nat} {A : Option Addr} {n c : Nat} {b : List UInt8} (h : w.ownsRow B 5 1 (.slice A n c) n (b.map vB)) : n ≤ c ∧ Rd vB w A b ∧ ∀ a, A = some a → B ≤ a.block := by
 refine ⟨?_, Rd.own h, ?_⟩
 ·rcases h.2 with ⟨e, h0⟩ | ⟨g, cap, cur, e, _, _, hc, _⟩
  ·omega
  ·injection e with _ _ e
   omega
 ·rcases h.2 with ⟨e, h0⟩ | ⟨g, cap, cur, e, hg, _⟩
  ·injection e with e
   subst e
   intro a ha
   cases ha
  ·injection e with e
   subst e
   intro a ha
   injection ha with ha
   subst ha
   exact hg
theorem zcQ {w w' : World} {base : Nat} {e : TypeId} {v : Value} {n : Nat} {xs : List Value} (h : w.ownsRow base e 1 v n xs) {g : Nat} (hg : v.ownBlock ≠ some g) (hh : ∀ b, b ≠ g → b < w.heap.size → w'.heap[b]? = w.heap[b]?) : w'.ownsRow base e 1 v n xs := by
 refine ⟨h.1, ?_⟩
 rcases h.2 with h0 | ⟨g', cap, cur, rfl, hb, hc, r⟩
 ·exact .inl h0
 ·refine .inr ⟨g', cap, cur, rfl, hb, (hh g' (fun e => hg ?_) (Array.getElem?_eq_some_iff.1 hc).1).trans hc, r⟩
  subst e
  rfl
theorem zbv {w w' : World} (h : Below w.heap.size w w') (row : Option Nat) : w.grownBy w' row := ⟨h.os, h.tape, h.output, h.size, fun k hk _ => h.block k hk⟩
def RetA (B : Nat) (w : World) (row : Option Nat) (X : AK) (e : Ending) (w' : World) : Prop :=
 ∃ A n c, e = .returned (aggA A n c X.s) ∧ Hid (X.b.length = n) ∧ n ≤ c ∧ Rd vB w' A X.b ∧ (∀ a, A = some a → B ≤ a.block) ∧ w.grownBy w' row
theorem zfc (A : Option Addr) (n c : Nat) (w : World) : Calls Tryz.prog 154 #[.slice A n c] w fun e w' => e = .returned (aggA A n c (n : Int)) ∧ Below w.heap.size w w' := by
 obtain ⟨hR, hB⟩ := zat w 24 [.slice none 0 0, .int .i64 0] _ rfl
 go_enter Tryz.func154, Tryz.ntmps154
 go_upto_region 1 with fail
 generalize w.alloc (.cells [Value.slice none 0 0, .int .i64 0].toArray 24) = W at hR hB ⊢
 go_wp2_with (refine zab rfl 24 (.tmp 2) (.tmp 6) rfl w.heap.size rfl [.slice A n c, .int .i64 (n : Int)] rfl _ _ hR (by exact zau) rfl (zaN A n c n) ?_)
 refine bodyPost_ret (results_cell_row (p := 2) (ty := 24) (by rfl) _ _ w.heap.size 24 _ (0, 0) _ (by rfl) (by exact hR.setRow _) Tryz.underlying24 (by rfl) (by exact zau)) (by rfl) ?_
 exact ⟨rfl, below_setRow hB (Nat.le_refl _) _⟩
theorem zaB (w : World) (ty tz : TypeId) (l m : List Value) (cs ds : Array Value) (h : cs = l.toArray) (k : ds = m.toArray) : Row ((w.alloc (.cells cs ty)).alloc (.cells ds tz)) w.heap.size ty l ∧ Row ((w.alloc (.cells cs ty)).alloc (.cells ds tz)) (w.heap.size + 1) tz m ∧ Below w.heap.size w ((w.alloc (.cells cs ty)).alloc (.cells ds tz)) := by
 obtain ⟨h1, h2⟩ := zat w ty l cs h
 obtain ⟨h3, h4⟩ := zat (w.alloc (.cells cs ty)) tz m ds k
 have hz : (w.alloc (.cells cs ty)).heap.size = w.heap.size + 1 := by simp
 rw [hz] at h3
 exact ⟨h1.later h4, h3, zaa h2 h4⟩
theorem zhL (A : Option Addr) (n c : Nat) (s : Int) (w : World) : Calls Tryz.prog 146 #[aggA A n c s] w fun e w' => e = .returned (aggA A n c s) ∧ Below w.heap.size w w' := by
 obtain ⟨hR0, hR, hB⟩ := zaB w 24 24 [.slice A n c, .int .i64 s] [.slice none 0 0, .int .i64 0] _ _ rfl rfl
 unfold aggA
 go_enter Tryz.func146, Tryz.ntmps146
 go_upto_region 1 with fail
 generalize (w.alloc (.cells [Value.slice A n c, .int .i64 s].toArray 24)).alloc (.cells [Value.slice none 0 0, .int .i64 0].toArray 24) = W at hR0 hR hB ⊢
 go_wp2_with (first
  | (refine zac rfl 24 (.tmp 1) rfl w.heap.size 0 rfl _ _ hR0 [.slice A n c, .int .i64 s] (by rfl) _ Tryz.underlying24 rfl (by exact zau) ?_)
  | (refine zab rfl 24 (.tmp 2) (.tmp 3) rfl (w.heap.size + 1) rfl [.slice A n c, .int .i64 s] rfl _ _ hR (by exact zau) rfl (zaN A n c s) ?_))
 refine bodyPost_ret (results_cell_row (p := 2) (ty := 24) (by rfl) _ _ (w.heap.size + 1) 24 _ (0, 0) _ (by rfl) (by exact hR.setRow _) Tryz.underlying24 (by rfl) (by exact zau)) (by rfl) ?_
 exact ⟨rfl, below_setRow hB (by omega) _⟩
theorem zjm (A : Option Addr) (n c : Nat) (s : Int) (w : World) : Calls Tryz.prog 145 #[aggA A n c s] w fun e w' => e = .returned (aggA none 0 0 0) ∧ Below w.heap.size w w' := by
 obtain ⟨hR0, hR, hB⟩ := zaB w 24 24 [.slice A n c, .int .i64 s] [.slice none 0 0, .int .i64 0] _ _ rfl rfl
 unfold aggA
 go_enter Tryz.func145, Tryz.ntmps145
 go_upto_region 1 with fail
 generalize (w.alloc (.cells [Value.slice A n c, .int .i64 s].toArray 24)).alloc (.cells [Value.slice none 0 0, .int .i64 0].toArray 24) = W at hR0 hR hB ⊢
 go_wp2_with (refine zab rfl 24 (.tmp 2) (.tmp 3) rfl (w.heap.size + 1) rfl [.slice none 0 0, .int .i64 0] rfl _ _ hR (by exact zau) rfl (zaN none 0 0 0) ?_)
 refine bodyPost_ret (results_cell_row (p := 2) (ty := 24) (by rfl) _ _ (w.heap.size + 1) 24 _ (0, 0) _ (by rfl) (by exact hR.setRow _) Tryz.underlying24 (by rfl) (by exact zau)) (by rfl) ?_
 exact ⟨rfl, below_setRow hB (by omega) _⟩
theorem zio (A : Option Addr) (n c : Nat) (s : Int) (w : World) : Calls Tryz.prog 153 #[aggA A n c s] w fun e w' => e = .returned (aggA A n c (n : Int)) ∧ Below w.heap.size w w' := by
 obtain ⟨hR0, hR, hB⟩ := zaB w 24 24 [.slice A n c, .int .i64 s] [.slice none 0 0, .int .i64 0] _ _ rfl rfl
 unfold aggA
 go_enter Tryz.func153, Tryz.ntmps153
 go_upto_region 1 with fail
 generalize (w.alloc (.cells [Value.slice A n c, .int .i64 s].toArray 24)).alloc (.cells [Value.slice none 0 0, .int .i64 0].toArray 24) = W at hR0 hR hB ⊢
 have e0 : W.cell? ⟨w.heap.size, 0, none⟩ = some (.slice A n c) := hR0.cell rfl
 go_wp2_with fail
 refine (zfc A n c _).mono ?_
 rintro e w1 ⟨rfl, hb⟩
 unfold aggA
 replace hR := hR.later hb
 replace hB := zaa hB hb
 clear hb
 go_wp2_with (refine zab rfl 24 (.tmp 2) (.tmp 5) rfl (w.heap.size + 1) rfl [.slice A n c, .int .i64 (n : Int)] rfl _ _ hR (by exact zau) rfl (zaN A n c n) ?_)
 refine bodyPost_ret (results_cell_row (p := 2) (ty := 24) (by rfl) _ _ (w.heap.size + 1) 24 _ (0, 0) _ (by rfl) (by exact hR.setRow _) Tryz.underlying24 (by rfl) (by exact zau)) (by rfl) ?_
 exact ⟨rfl, below_setRow hB (by omega) _⟩
def zqc (g : Nat) (a b : Value) (W : World) : Prop := W.cell? ⟨g, 0, none⟩ = some a ∧ W.cell? ⟨g, 1, none⟩ = some b
theorem zft (B : Nat) (b l : List UInt8) (A C : Option Addr) (n c m d : Nat) (s : Int) (w : World) (HB : Hid (b.length = n)) (HL : Hid (l.length = m)) (ho : w.ownsRow B 5 1 (.slice A n c) n (b.map vB)) (hr : Rd vB w C l) (hle : n + m ≤ 1048576) (hBw : B ≤ w.heap.size) :
  Calls Tryz.prog 148 #[aggA A n c s, .slice C m d] w (RetA B w (Value.slice A n c).ownBlock ⟨b ++ l, s⟩) := by
 obtain ⟨i0, hi, hz0, hz1, hz2⟩ := info_parts zcx
 obtain ⟨hR0, hR, hB⟩ := zaB w 24 24 [.slice A n c, .int .i64 s] [.slice none 0 0, .int .i64 0] _ _ rfl rfl
 have hne : ∀ g, (Value.slice A n c).ownBlock = some g → g < w.heap.size := fun g hg => (ho.lt g hg).2
 unfold aggA
 go_enter Tryz.func148, Tryz.ntmps148
 go_upto_region 1 with fail
 generalize (w.alloc (.cells [Value.slice A n c, .int .i64 s].toArray 24)).alloc (.cells [Value.slice none 0 0, .int .i64 0].toArray 24) = W at hR0 hR hB ⊢
 have ho1 := zam ho hB
 have hr1 := hr.keep hB
 have hsz := hB.size
 have e1 := HL.out
 subst e1
 refine zah (zqc w.heap.size (.slice A n c) (.int .i64 s)) (.step 0 false (.step 1 false (.step 2 false (.step 4 false (.step 5 false (.step 3 true (.step 6 false (.step 7 true (.nil))))))))) ⟨hR0.drew.cell rfl, hR0.drew.cell rfl⟩ (by kernel_rfl) (by kernel_rfl) (by rfl) (by kernel_rfl) ?_
 iterate 5 (refine zae rfl (by rfl) (v := ?_) ?_ ?_; rotate_left 1; (intro W hW; (try dsimp only at hW); obtain ⟨hW0, hW1⟩ := hW; go_simp <;> with_reducible rfl); simp only [List.getElem_toArray, List.getElem_cons_zero, List.getElem_cons_succ, Act.put, List.setIfInBounds_toArray, List.set_cons_zero, List.set_cons_succ])
 refine zad rfl (by rfl) (fun K hK => ?_)
 refine zdO _ (.tmp 6) (.tmp 7) 22 rfl B 5 i0 (.int .u8 0) 1 Tryz.underlying22 hi hz0 hz1 hz2 rfl (.slice A n c) n _ rfl (ho1 : W.drew.ownsRow B 5 1 _ n _) C l d rfl (hr1 : Rd vB W.drew C l) zbt (by unfold maxLen; omega) (by omega) (by simp; omega) ?_
 intro v1 w1 hown1 hgrow1 hat
 have hR0' := hR0.drew.grown hgrow1 (fun e => by have := hne _ e; omega)
 have hR' := hR.drew.grown hgrow1 (fun e => by have := hne _ e; omega)
 have hlt0 := hR0.lt
 have hlt1 := hR.lt
 refine hK.out _ _ ⟨hR0'.cell rfl, hR0'.cell rfl⟩ ?_
 clear hK K
 obtain ⟨A2, c2, rfl, hc2⟩ := zkm hown1
 iterate 1 (refine zae rfl (by rfl) (v := ?_) ?_ ?_; rotate_left 1; (intro W hW; (try dsimp only at hW); obtain ⟨hW0, hW1⟩ := hW; go_simp <;> with_reducible rfl); simp only [List.getElem_toArray, List.getElem_cons_zero, List.getElem_cons_succ, Act.put, List.setIfInBounds_toArray, List.set_cons_zero, List.set_cons_succ])
 refine zad rfl (by rfl) (fun K hK => ?_)
 refine hR'.wp_store 24 (.tmp 4) (.tmp 11) rfl rfl [.slice A2 (n + l.length) c2, .int .i64 s] rfl (by exact zau) rfl (zaN A2 _ c2 s) ?_
 refine hK.out _ _ ⟨(hR0'.setRow_other (by omega) _).cell rfl, (hR0'.setRow_other (by omega) _).cell rfl⟩ ?_
 clear hK K
 refine zal ?_
 go_wp2_with fail
 refine bodyPost_ret (results_cell_row (p := 4) (ty := 24) (by rfl) _ _ (w.heap.size + 1) 24 _ (0, 0) _ (by rfl) (by exact hR'.setRow _) Tryz.underlying24 (by rfl) (by exact zau)) (by rfl) ?_
 have hg2 : w.grownBy (w1.setRow (w.heap.size + 1) [.slice A2 (n + l.length) c2, .int .i64 s].toArray) (Value.slice A n c).ownBlock := by
  have g1 : w.grownBy W.drew (Value.slice A n c).ownBlock := zbv hB.drew _
  have g2 := g1.trans hgrow1
  exact ⟨g2.os, g2.tape, g2.output, by have := g2.size; simpa using this, fun k hk hn => (Go.setRow_other w1 _ k _ (by omega)).trans (g2.block k hk hn)⟩
 have hown2 := zcQ (w' := w1.setRow (w.heap.size + 1) [.slice A2 (n + l.length) c2, .int .i64 s].toArray) hown1 (g := w.heap.size + 1) (fun e => by
  rcases hat with h | h
  ·rw [h] at e
   have := hne _ e
   omega
  ·rw [h] at e
   injection e with e
   simp at e
   omega) (fun b hb _ => Go.setRow_other w1 _ b _ hb)
 obtain ⟨_, h5, h6⟩ := zdP (b := b ++ l) (by rw [List.map_append]; exact hown2)
 exact ⟨A2, n + l.length, c2, rfl, by unfold Hid; rw [List.length_append, HB.out], hc2, h5, h6, hg2⟩
theorem zjn (B : Nat) (b l : List UInt8) (A C : Option Addr) (n c m d : Nat) (s : Int) (g1 : Nat) (w : World) (HB : Hid (b.length = n)) (HL : Hid (l.length = m)) (ho : w.ownsRow B 5 1 (.slice A n c) n (b.map vB)) (hr : Rd vB w C l) (hle : n + m ≤ 1048576) (hBw : B ≤ w.heap.size) (c1 : w.cell? ⟨g1, 0, none⟩ = some (.slice C m d)) :
  Calls Tryz.prog 147 #[aggA A n c s, .pointer (some ⟨g1, 0, none⟩)] w (RetA B w (Value.slice A n c).ownBlock ⟨b ++ l, s⟩) := by
 obtain ⟨hR0, hR, hB⟩ := zaB w 24 24 [.slice A n c, .int .i64 s] [.slice none 0 0, .int .i64 0] _ _ rfl rfl
 have hg1 := World.block_lt_of_cell? w _ c1
 unfold aggA
 go_enter Tryz.func147, Tryz.ntmps147
 go_upto_region 1 with fail
 generalize (w.alloc (.cells [Value.slice A n c, .int .i64 s].toArray 24)).alloc (.cells [Value.slice none 0 0, .int .i64 0].toArray 24) = W at hR0 hR hB ⊢
 have d1 : W.cell? ⟨g1, 0, none⟩ = some (.slice C m d) := (hB.cell (p := ⟨g1, 0, none⟩) hg1).trans c1
 have hsz := hB.size
 have hlt1 := hR.lt
 have HO := Lib.hid (zam ho hB)
 have HR := Lib.hid (hr.keep hB)
 go_wp2_with (refine zac rfl 24 (.tmp 2) rfl w.heap.size 0 rfl _ _ hR0 [.slice A n c, .int .i64 s] (by rfl) _ Tryz.underlying24 rfl (by exact zau) ?_)
 refine (zft B b l A C n c m d s _ HB HL HO.out HR.out hle (by omega)).mono ?_
 rintro e w1 ⟨A2, n2, c2, rfl, h2, h3, h4, h5, h6⟩
 have hne : ∀ g, (Value.slice A n c).ownBlock = some g → g < w.heap.size := fun g hg => (ho.lt g hg).2
 have hR1 := hR.grown h6 (fun e => by have := hne _ e; omega)
 unfold aggA
 dsimp only at h2 h4 ⊢
 go_wp2_with (refine zab rfl 24 (.tmp 3) (.tmp 6) rfl (w.heap.size + 1) rfl [.slice A2 n2 c2, .int .i64 s] rfl _ _ hR1 (by exact zau) rfl (zaN A2 n2 c2 s) ?_)
 refine bodyPost_ret (results_cell_row (p := 3) (ty := 24) (by rfl) _ _ (w.heap.size + 1) 24 _ (0, 0) _ (by rfl) (by exact hR1.setRow _) Tryz.underlying24 (by rfl) (by exact zau)) (by rfl) ?_
 have g1 := (zbv hB (Value.slice A n c).ownBlock).trans h6
 exact ⟨A2, n2, c2, rfl, h2, h3, h4.no_byte hR1 (zin none 0 0 0) ((Only.refl _ w1).setRow _), h5, ⟨g1.os, g1.tape, g1.output, by have := g1.size; simpa using this, fun k hk hn => (Go.setRow_other w1 _ k _ (by omega)).trans (g1.block k hk hn)⟩⟩
def zqd (g g1 g2 : Nat) (a b x k : Value) (W : World) : Prop := (W.cell? ⟨g, 0, none⟩ = some a ∧ W.cell? ⟨g, 1, none⟩ = some b) ∧ W.cell? ⟨g1, 0, none⟩ = some x ∧ W.cell? ⟨g2, 5, none⟩ = some k
theorem zip (B : Nat) (b l : List UInt8) (A C : Option Addr) (n c m d : Nat) (s : Int) (kp : Nat) (g1 g2 : Nat) (w : World) (HB : Hid (b.length = n)) (HL : Hid (l.length = m)) (hmd : m ≤ d) (ho : w.ownsRow B 5 1 (.slice A n c) n (b.map vB)) (hr : Rd vB w C l) (hle : n + m ≤ 1048576) (hBw : B ≤ w.heap.size) (hb1 : g1 < B) (hb2 : g2 < B) (c1 : w.cell? ⟨g1, 0, none⟩ = some (.slice C m d)) (c2 : w.cell? ⟨g2, 5, none⟩ = some (.int .i64 (kp : Int))) :
  Calls Tryz.prog 149 #[aggA A n c s, .pointer (some ⟨g1, 0, none⟩), .pointer (some ⟨g2, 0, none⟩)] w (RetA B w (Value.slice A n c).ownBlock ⟨b ++ l.take kp, s⟩) := by
 obtain ⟨hR0, hR, hB⟩ := zaB w 24 24 [.slice A n c, .int .i64 s] [.slice none 0 0, .int .i64 0] _ _ rfl rfl
 have hg1 := World.block_lt_of_cell? w _ c1
 have hg2 := World.block_lt_of_cell? w _ c2
 obtain ⟨q, hq, hqm, HT⟩ : ∃ q, q = min kp m ∧ q ≤ m ∧ Hid ((l.take kp) = l.take q) := by
  refine ⟨min kp m, rfl, Nat.min_le_right _ _, ?_⟩
  unfold Hid
  rw [← HL.out, ← List.take_take, List.take_length]
 have HQ : Hid ((l.take q).length = q) := by unfold Hid; rw [List.length_take, HL.out]; omega
 have hm1 : (if (m : Int) < (kp : Int) then (m : Int) else (kp : Int)) = (q : Int) := by split <;> omega
 have hm2 : (if m < kp then (m : Int) else (kp : Int)) = (q : Int) := by split <;> omega
 have hcut : ∀ W, (Instr.slice 22 (.slice C m d) none (some (.int .i64 (q : Int))) none).run Tryz.prog W = .ok (.slice C q d) W := fun W => zcd 22 5 Tryz.underlying22 za0 C m d q (by omega) W
 clear hq
 unfold aggA
 go_enter Tryz.func149, Tryz.ntmps149
 go_upto_region 1 with fail
 generalize (w.alloc (.cells [Value.slice A n c, .int .i64 s].toArray 24)).alloc (.cells [Value.slice none 0 0, .int .i64 0].toArray 24) = W at hR0 hR hB ⊢
 have d1 : W.cell? ⟨g1, 0, none⟩ = some (.slice C m d) := (hB.cell (p := ⟨g1, 0, none⟩) hg1).trans c1
 have d2 : W.cell? ⟨g2, 5, none⟩ = some (.int .i64 (kp : Int)) := (hB.cell (p := ⟨g2, 5, none⟩) hg2).trans c2
 have hsz := hB.size
 have hlt1 := hR.lt
 have HO := Lib.hid (zam ho hB.drew)
 have HR := Lib.hid ((hr.take q).keep hB.drew)
 refine zah (zqd w.heap.size g1 g2 (.slice A n c) (.int .i64 s) (.slice C m d) (.int .i64 (kp : Int))) (.step 0 false (.step 1 false (.step 2 false (.step 3 false (.step 4 false (.step 5 false (.step 6 false (.step 7 false (.step 8 true (.step 9 true (.nil))))))))))) ⟨⟨hR0.drew.cell rfl, hR0.drew.cell rfl⟩, d1, d2⟩ (by kernel_rfl) (by kernel_rfl) (by rfl) (by kernel_rfl) ?_
 iterate 8 (refine zae rfl (by rfl) (v := ?_) ?_ ?_; rotate_left 1; (intro W hW; (try dsimp only at hW); obtain ⟨hW0, hW1⟩ := hW; go_simp <;> with_reducible rfl); simp only [List.getElem_toArray, List.getElem_cons_zero, List.getElem_cons_succ, Act.put, List.setIfInBounds_toArray, List.set_cons_zero, List.set_cons_succ])
 refine zad rfl (by rfl) (fun K hK => ?_)
 go_simp
 refine (zft B b (l.take q) A C n c q d s _ HB HQ HO.out HR.out (by omega) (by simp; omega)).mono ?_
 rintro e w1 ⟨A2, n2, c2, rfl, h2, h3, h4, h5, h6⟩
 have hne : ∀ g, (Value.slice A n c).ownBlock = some g → g < w.heap.size := fun g hg => (ho.lt g hg).2
 have hR1 := hR.drew.grown h6 (fun e => by have := hne _ e; omega)
 have hR0' := hR0.drew.grown h6 (fun e => by have := hne _ e; omega)
 have hnb : ∀ g, (Value.slice A n c).ownBlock = some g → B ≤ g := fun g hg => (ho.lt g hg).1
 have k1 : w1.cell? ⟨g1, 0, none⟩ = some (.slice C m d) := h6.cell (a := ⟨g1, 0, none⟩) d1 (fun e => by have := hnb g1 e.symm; omega)
 have k2 : w1.cell? ⟨g2, 5, none⟩ = some (.int .i64 (kp : Int)) := h6.cell (a := ⟨g2, 5, none⟩) d2 (fun e => by have := hnb g2 e.symm; omega)
 have hlt0 := hR0.lt
 refine hK.out _ _ ⟨⟨hR0'.cell rfl, hR0'.cell rfl⟩, k1, k2⟩ ?_
 clear hK K
 dsimp only at h2 h4 ⊢
 refine zad rfl (by rfl) (fun K hK => ?_)
 refine hR1.wp_store 24 (.tmp 4) (.tmp 13) rfl rfl [.slice A2 n2 c2, .int .i64 s] rfl (by exact zau) rfl (zaN A2 _ c2 s) ?_
 refine hK.out _ _ ⟨⟨(hR0'.setRow_other (by omega) _).cell rfl, (hR0'.setRow_other (by omega) _).cell rfl⟩, (cell_setRow_other w1 _ _ ⟨g1, 0, none⟩ (by show g1 ≠ w.heap.size + 1; omega)).trans k1, (cell_setRow_other w1 _ _ ⟨g2, 5, none⟩ (by show g2 ≠ w.heap.size + 1; omega)).trans k2⟩ ?_
 clear hK K
 refine zal ?_
 go_wp2_with fail
 refine bodyPost_ret (results_cell_row (p := 4) (ty := 24) (by rfl) _ _ (w.heap.size + 1) 24 _ (0, 0) _ (by rfl) (by exact hR1.setRow _) Tryz.underlying24 (by rfl) (by exact zau)) (by rfl) ?_
 have g1 : w.grownBy w1 (Value.slice A n c).ownBlock := (zbv hB.drew (Value.slice A n c).ownBlock).trans h6
 exact ⟨A2, n2, c2, rfl, by rw [HT.out]; exact h2, h3, by rw [HT.out]; exact h4.no_byte hR1 (zin none 0 0 0) ((Only.refl _ w1).setRow _), h5, ⟨g1.os, g1.tape, g1.output, by have := g1.size; simpa using this, fun k hk hn => (Go.setRow_other w1 _ k _ (by omega)).trans (g1.block k hk hn)⟩⟩
theorem ziq (w : World) : Calls Tryz.prog 24 #[] w fun e w' => e = .returned (aggD ⟨none, 0, 0, none, 0, 0⟩ newK) ∧ Below w.heap.size w w' := by
 obtain ⟨hR, hB⟩ := zat w 27 [.slice none 0 0, .int .i64 0, .slice none 0 0, .int .i64 0, .int .i64 0, .int .i64 0, .bool false] _ rfl
 go_enter Tryz.func24, Tryz.ntmps24
 go_upto_region 1 with fail
 generalize w.alloc (.cells [Value.slice none 0 0, .int .i64 0, .slice none 0 0, .int .i64 0, .int .i64 0, .int .i64 0, .bool false].toArray 27) = W at hR hB ⊢
 go_wp2_with (refine zab rfl 27 (.tmp 0) (.tmp 1) rfl w.heap.size rfl [.slice none 0 0, .int .i64 0, .slice none 0 0, .int .i64 0, .int .i64 (-1), .int .i64 0, .bool false] rfl _ _ hR (by exact zaj) rfl (za7 ⟨none, 0, 0, none, 0, 0⟩ newK) ?_)
 refine bodyPost_ret (results_cell_row (p := 0) (ty := 27) (by rfl) _ _ w.heap.size 27 _ (0, 0) _ (by rfl) (by exact hR.setRow _) Tryz.underlying27 (by rfl) (by exact zaj)) (by rfl) ?_
 exact ⟨rfl, below_setRow hB (Nat.le_refl _) _⟩
end Go.Proofs.YteljklkgdejhpaaGreatDoor
