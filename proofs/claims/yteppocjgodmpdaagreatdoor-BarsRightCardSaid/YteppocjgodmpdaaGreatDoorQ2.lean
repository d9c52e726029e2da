/-
  errors.As by its contracts, at the targets 'var c api.Errno' and 'var f *api.Fault': an error that is just that (one round), and a fault that wraps a code (two rounds: its Unwrap between them). Condition: the package-level variable errors.errorType holds the handle of the type error (EtC), as the rows list it.
-/
import Derived.Test.YteppocjgodmpdaaGreatDoorQ1
import Derived.Test.YteppocjgodmpdaaGreatDoorChecked
import Derived.WalkKit
import Derived.LaidEql
import Derived.Stop.Asserts
import Derived.RowKitTokens
import Derived.Handy
import Derived.Deep.DeepCutAuto
import Derived.Test.YteppocjgodmpdaaGreatDoorRows
import Derived.WalkSpells
import Derived.Lib.Hide
import Derived.LoopTactic
import Derived.LoopN
import Derived.OwnWalk
import Derived.RangeFuncNested
import Derived.RangeFuncBound
import Derived.RangeFuncCalls
import Derived.RangeFuncLeaves
import Derived.Shelf.Abstract
import Derived.Shelf.RegionOpen
import Derived.OwnWalkIn
import Derived.TacticsInMore
import Derived.LoopNIn
import Derived.LoopIn
namespace Go.Proofs.YteppocjgodmpdaaGreatDoor
set_option maxRecDepth 100000
open Go.RowKit Go.Extern.Stop Go.Stop Go.Extern
set_option linter.unusedSimpArgs false
set_option linter.unusedVariables false

def EtC (w : World) : Prop := w.cell? ⟨0, 0, none⟩ = some (.iface 264 (.agg #[.pointer (some ⟨2, 79, none⟩)]))
theorem etC_lt {w : World} (hg : EtC w) : 0 < w.heap.size := World.block_lt_of_cell? w ⟨0, 0, none⟩ hg
theorem EtC.later {w w' : World} (hg : EtC w) (hb : Below w.heap.size w w') : EtC w' := (hb.cell (p := ⟨0, 0, none⟩) (etC_lt hg)).trans hg
theorem EtC.drew {w : World} (hg : EtC w) : EtC w.drew := hg
theorem EtC.only {g : Nat} {w w' : World} (hg : EtC w) (h : Only g w w') (hne : 0 ≠ g) : EtC w' := (World.cell?_of_block (w := w) (a := ⟨0, 0, none⟩) (h.other _ hne (etC_lt hg))).trans hg

/-- errors.As(nil, target). -/
theorem as_nil (t : Value) (w : World) : Calls Tryz.prog 71 #[.nilIface, t] w fun e w' => e = .returned (.bool false) ∧ w' = w := by
  go_enter Tryz.func71, Tryz.ntmps71
  go_wp2
  go_ret
  exact ⟨rfl, rfl⟩
theorem rlmV (z : Sem Value) (f : TypeId → Addr → Nat → Nat → Sem Value) (v : Value) :
    ReflectliteValue.method z f #[v] = (do match ← ReflectliteValue.parts v with | none => z | some (t, a, fl) => f t a fl (fl % 32)) := rfl
theorem rlsV (v x : Value) : ReflectliteValue.set #[v, x] = (do
    let (some (dst, a, fl), some (src, b, _)) := (← ReflectliteValue.parts v, ← ReflectliteValue.parts x)
      | unsupported (.noEntry "extern/(internal/reflectlite.Value).Set.zeroValue")
    if fl / ReflectliteValue.flagAddr % 2 == 0 then unsupported (.noEntry "extern/(internal/reflectlite.Value).Set.unaddressable")
    let val ← loadVar src b
    if ← Rtype.directlyAssignable dst src then storeVar dst a val
    else if ← Rtype.implements dst src then
      if (← Rtype.kind src) == 20 then
        match val with
        | .nilIface => unsupported (.noEntry "extern/reflectlite: a nil value of one interface type handed on as a value of another")
        | _ => storeVar dst a val
      else storeVar dst a (.iface src val)
    else panicString ("reflectlite.Set: value of type " ++ (← Rtype.spelt src) ++ " is not assignable to type " ++ (← Rtype.spelt dst))
    pure (.tuple #[])) := rfl

/-! ### At a target of type *api.Errno -/
theorem vTarE (t : Addr) (w : World) : (ReflectliteValue.unpack (.iface 131 (.pointer (some t)))).run Tryz.prog w = .ok (.agg #[.pointer (some ⟨2, 131, none⟩), .pointer (some ⟨w.heap.size, 0, none⟩), .int .u64 150]) (w.alloc (.cells #[.pointer (some t)] 131)) := by kernel_rfl
theorem tTarE (a : Addr) (w : World) : (ReflectliteValue.methodAny (ReflectliteValue.valueError "reflectlite.Value.Type" 0) (fun t _ _ _ => ReflectliteType.toType t) #[.agg #[.pointer (some ⟨2, 131, none⟩), .pointer (some a), .int .u64 150]]).run Tryz.prog w = .ok (.iface 264 (.agg #[.pointer (some ⟨2, 131, none⟩)])) w := by kernel_rfl
theorem kTarE (w : World) : ((ReflectliteType.abiMethod fun t => (fun a : Nat => Value.int IntKind.u8 (a : Int)) <$> Rtype.kind t) #[.pointer (some ⟨2, 131, none⟩)]).run Tryz.prog w = .ok (.int .u8 22) w := by kernel_rfl
theorem kElE (w : World) : ((ReflectliteType.abiMethod fun t => (fun a : Nat => Value.int IntKind.u8 (a : Int)) <$> Rtype.kind t) #[.pointer (some ⟨2, 43, none⟩)]).run Tryz.prog w = .ok (.int .u8 2) w := by kernel_rfl
theorem pTarE (a : Addr) (w : World) : (ReflectliteValue.parts (.agg #[.pointer (some ⟨2, 131, none⟩), .pointer (some a), .int .u64 150])).run Tryz.prog w = .ok (some (131, a, 150)) w := by kernel_rfl
theorem isNilTarE (a p : Addr) (W : World) (ha : W.cell? a = some (.pointer (some p))) :
    (ReflectliteValue.method (ReflectliteValue.valueError "reflectlite.Value.IsNil" 0) ReflectliteValue.isNil #[.agg #[.pointer (some ⟨2, 131, none⟩), .pointer (some a), .int .u64 150]]).run Tryz.prog W = .ok (.bool false) W := by
  rw [rlmV]
  simp only [Sem.run_bind, pTarE, Result.andThen]
  simp [ReflectliteValue.isNil, loadVar, isAgg, underlying, Tryz.underlying131, ha, Result.andThen]
theorem eTarE (w : World) : (ReflectliteType.method ReflectliteType.elem #[.agg #[.pointer (some ⟨2, 131, none⟩)]]).run Tryz.prog w = .ok (.iface 264 (.agg #[.pointer (some ⟨2, 43, none⟩)])) w := by kernel_rfl
theorem iElE (w : World) : (ReflectliteType.relation "Implements" ReflectliteType.implements_ #[.agg #[.pointer (some ⟨2, 43, none⟩)], .iface 264 (.agg #[.pointer (some ⟨2, 79, none⟩)])]).run Tryz.prog w = .ok (.bool true) w := by kernel_rfl
theorem oElE (v : Value) (w : World) : (ReflectliteType.typeOf #[.iface 43 v]).run Tryz.prog w = .ok (.iface 264 (.agg #[.pointer (some ⟨2, 43, none⟩)])) w := by kernel_rfl
theorem aElE (w : World) : (ReflectliteType.relation "AssignableTo" ReflectliteType.assignableTo #[.agg #[.pointer (some ⟨2, 43, none⟩)], .iface 264 (.agg #[.pointer (some ⟨2, 43, none⟩)])]).run Tryz.prog w = .ok (.bool true) w := by kernel_rfl
theorem vElE (k : Int) (w : World) : (ReflectliteValue.unpack (.iface 43 (.int .i64 k))).run Tryz.prog w = .ok (.agg #[.pointer (some ⟨2, 43, none⟩), .pointer (some ⟨w.heap.size, 0, none⟩), .int .u64 130]) (w.alloc (.cells #[.int .i64 k] 43)) := by kernel_rfl
theorem elemOfE (w : World) : (Rtype.elem? 131).run Tryz.prog w = .ok (some 43) w := by kernel_rfl
theorem mkElE (p : Addr) (w : World) : (ReflectliteValue.mk 43 p ReflectliteValue.flagAddr).run Tryz.prog w = .ok (.agg #[.pointer (some ⟨2, 43, none⟩), .pointer (some p), .int .u64 386]) w := by kernel_rfl
theorem elemVE (a p : Addr) (W : World) (ha : W.cell? a = some (.pointer (some p))) :
    (ReflectliteValue.method (ReflectliteValue.valueError "reflectlite.Value.Elem" 0) ReflectliteValue.elem #[.agg #[.pointer (some ⟨2, 131, none⟩), .pointer (some a), .int .u64 150]]).run Tryz.prog W = .ok (.agg #[.pointer (some ⟨2, 43, none⟩), .pointer (some p), .int .u64 386]) W := by
  rw [rlmV]
  simp only [Sem.run_bind, pTarE, Result.andThen]
  simp [ReflectliteValue.elem, loadVar, isAgg, underlying, Tryz.underlying131, ha, Result.andThen, elemOfE, mkElE]
theorem pElAE (a : Addr) (w : World) : (ReflectliteValue.parts (.agg #[.pointer (some ⟨2, 43, none⟩), .pointer (some a), .int .u64 386])).run Tryz.prog w = .ok (some (43, a, 386)) w := by kernel_rfl
theorem pElE (a : Addr) (w : World) : (ReflectliteValue.parts (.agg #[.pointer (some ⟨2, 43, none⟩), .pointer (some a), .int .u64 130])).run Tryz.prog w = .ok (some (43, a, 130)) w := by kernel_rfl
theorem dElE (w : World) : (Rtype.directlyAssignable 43 43).run Tryz.prog w = .ok true w := by kernel_rfl
theorem setElE (ta b : Addr) (k : Int) (old : Value) (W : World) (hb : W.cell? b = some (.int .i64 k)) (ht : W.cell? ta = some old) (hf : W.frozen? ta = false) :
    (ReflectliteValue.set #[.agg #[.pointer (some ⟨2, 43, none⟩), .pointer (some ta), .int .u64 386], .agg #[.pointer (some ⟨2, 43, none⟩), .pointer (some b), .int .u64 130]]).run Tryz.prog W = .ok (.tuple #[]) (W.setCell ta (.int .i64 k)) := by
  rw [rlsV]
  simp only [Sem.run_bind, pElAE, pElE, Result.andThen]
  simp [ReflectliteValue.flagAddr, loadVar, isAgg, underlying, Tryz.underlying43, hb, Result.andThen, dElE, storeVar, Value.cells, storeCells, Addr.add]
  rw [run_store Tryz.prog W ta _ _ (by rfl)]
  simp [ht, hf]

/-! ### At a target of type **api.Faul -/
theorem vTarF (t : Addr) (w : World) : (ReflectliteValue.unpack (.iface 130 (.pointer (some t)))).run Tryz.prog w = .ok (.agg #[.pointer (some ⟨2, 130, none⟩), .pointer (some ⟨w.heap.size, 0, none⟩), .int .u64 150]) (w.alloc (.cells #[.pointer (some t)] 130)) := by kernel_rfl
theorem tTarF (a : Addr) (w : World) : (ReflectliteValue.methodAny (ReflectliteValue.valueError "reflectlite.Value.Type" 0) (fun t _ _ _ => ReflectliteType.toType t) #[.agg #[.pointer (some ⟨2, 130, none⟩), .pointer (some a), .int .u64 150]]).run Tryz.prog w = .ok (.iface 264 (.agg #[.pointer (some ⟨2, 130, none⟩)])) w := by kernel_rfl
theorem kTarF (w : World) : ((ReflectliteType.abiMethod fun t => (fun a : Nat => Value.int IntKind.u8 (a : Int)) <$> Rtype.kind t) #[.pointer (some ⟨2, 130, none⟩)]).run Tryz.prog w = .ok (.int .u8 22) w := by kernel_rfl
theorem kElF (w : World) : ((ReflectliteType.abiMethod fun t => (fun a : Nat => Value.int IntKind.u8 (a : Int)) <$> Rtype.kind t) #[.pointer (some ⟨2, 128, none⟩)]).run Tryz.prog w = .ok (.int .u8 22) w := by kernel_rfl
theorem pTarF (a : Addr) (w : World) : (ReflectliteValue.parts (.agg #[.pointer (some ⟨2, 130, none⟩), .pointer (some a), .int .u64 150])).run Tryz.prog w = .ok (some (130, a, 150)) w := by kernel_rfl
theorem isNilTarF (a p : Addr) (W : World) (ha : W.cell? a = some (.pointer (some p))) :
    (ReflectliteValue.method (ReflectliteValue.valueError "reflectlite.Value.IsNil" 0) ReflectliteValue.isNil #[.agg #[.pointer (some ⟨2, 130, none⟩), .pointer (some a), .int .u64 150]]).run Tryz.prog W = .ok (.bool false) W := by
  rw [rlmV]
  simp only [Sem.run_bind, pTarF, Result.andThen]
  simp [ReflectliteValue.isNil, loadVar, isAgg, underlying, Tryz.underlying130, ha, Result.andThen]
theorem eTarF (w : World) : (ReflectliteType.method ReflectliteType.elem #[.agg #[.pointer (some ⟨2, 130, none⟩)]]).run Tryz.prog w = .ok (.iface 264 (.agg #[.pointer (some ⟨2, 128, none⟩)])) w := by kernel_rfl
theorem iElF (w : World) : (ReflectliteType.relation "Implements" ReflectliteType.implements_ #[.agg #[.pointer (some ⟨2, 128, none⟩)], .iface 264 (.agg #[.pointer (some ⟨2, 79, none⟩)])]).run Tryz.prog w = .ok (.bool true) w := by kernel_rfl
theorem oElF (v : Value) (w : World) : (ReflectliteType.typeOf #[.iface 128 v]).run Tryz.prog w = .ok (.iface 264 (.agg #[.pointer (some ⟨2, 128, none⟩)])) w := by kernel_rfl
theorem aElF (w : World) : (ReflectliteType.relation "AssignableTo" ReflectliteType.assignableTo #[.agg #[.pointer (some ⟨2, 128, none⟩)], .iface 264 (.agg #[.pointer (some ⟨2, 128, none⟩)])]).run Tryz.prog w = .ok (.bool true) w := by kernel_rfl
theorem vElF (e : Addr) (w : World) : (ReflectliteValue.unpack (.iface 128 (.pointer (some e)))).run Tryz.prog w = .ok (.agg #[.pointer (some ⟨2, 128, none⟩), .pointer (some ⟨w.heap.size, 0, none⟩), .int .u64 150]) (w.alloc (.cells #[.pointer (some e)] 128)) := by kernel_rfl
theorem elemOfF (w : World) : (Rtype.elem? 130).run Tryz.prog w = .ok (some 128) w := by kernel_rfl
theorem mkElF (p : Addr) (w : World) : (ReflectliteValue.mk 128 p ReflectliteValue.flagAddr).run Tryz.prog w = .ok (.agg #[.pointer (some ⟨2, 128, none⟩), .pointer (some p), .int .u64 406]) w := by kernel_rfl
theorem elemVF (a p : Addr) (W : World) (ha : W.cell? a = some (.pointer (some p))) :
    (ReflectliteValue.method (ReflectliteValue.valueError "reflectlite.Value.Elem" 0) ReflectliteValue.elem #[.agg #[.pointer (some ⟨2, 130, none⟩), .pointer (some a), .int .u64 150]]).run Tryz.prog W = .ok (.agg #[.pointer (some ⟨2, 128, none⟩), .pointer (some p), .int .u64 406]) W := by
  rw [rlmV]
  simp only [Sem.run_bind, pTarF, Result.andThen]
  simp [ReflectliteValue.elem, loadVar, isAgg, underlying, Tryz.underlying130, ha, Result.andThen, elemOfF, mkElF]
theorem pElAF (a : Addr) (w : World) : (ReflectliteValue.parts (.agg #[.pointer (some ⟨2, 128, none⟩), .pointer (some a), .int .u64 406])).run Tryz.prog w = .ok (some (128, a, 406)) w := by kernel_rfl
theorem pElF (a : Addr) (w : World) : (ReflectliteValue.parts (.agg #[.pointer (some ⟨2, 128, none⟩), .pointer (some a), .int .u64 150])).run Tryz.prog w = .ok (some (128, a, 150)) w := by kernel_rfl
theorem dElF (w : World) : (Rtype.directlyAssignable 128 128).run Tryz.prog w = .ok true w := by kernel_rfl
theorem setElF (ta b : Addr) (e : Addr) (old : Value) (W : World) (hb : W.cell? b = some (.pointer (some e))) (ht : W.cell? ta = some old) (hf : W.frozen? ta = false) :
    (ReflectliteValue.set #[.agg #[.pointer (some ⟨2, 128, none⟩), .pointer (some ta), .int .u64 406], .agg #[.pointer (some ⟨2, 128, none⟩), .pointer (some b), .int .u64 150]]).run Tryz.prog W = .ok (.tuple #[]) (W.setCell ta (.pointer (some e))) := by
  rw [rlsV]
  simp only [Sem.run_bind, pElAF, pElF, Result.andThen]
  simp [ReflectliteValue.flagAddr, loadVar, isAgg, underlying, Tryz.underlying128, hb, Result.andThen, dElF, storeVar, Value.cells, storeCells, Addr.add]
  rw [run_store Tryz.prog W ta _ _ (by rfl)]
  simp [ht, hf]

/-! ### A fault that is asked for its code: it isn't one; it has no As; it has Unwrap -/
theorem oFault (v : Value) (w : World) : (ReflectliteType.typeOf #[.iface 128 v]).run Tryz.prog w = .ok (.iface 264 (.agg #[.pointer (some ⟨2, 128, none⟩)])) w := by kernel_rfl
theorem aFault (w : World) : (ReflectliteType.relation "AssignableTo" ReflectliteType.assignableTo #[.agg #[.pointer (some ⟨2, 128, none⟩)], .iface 264 (.agg #[.pointer (some ⟨2, 43, none⟩)])]).run Tryz.prog w = .ok (.bool false) w := by kernel_rfl
theorem noAsF (v : Value) (xT : TypeId) (w : World) : (Instr.typeAssert (.iface 128 v) xT 269 true).run Tryz.prog w = .ok (.tuple #[.nilIface, .bool false]) w := run_typeAssert_lacksB Tryz.underlying269 (by kernel_rfl) (by kernel_rfl) v xT w
theorem unwrapF (v : Value) (xT : TypeId) (w : World) : (Instr.typeAssert (.iface 128 v) xT 272 true).run Tryz.prog w = .ok (.tuple #[.iface 128 v, .bool true]) w := run_typeAssert_hasB Tryz.underlying272 (by kernel_rfl) v xT w

set_option maxHeartbeats 4000000 in
theorem as_errno (k : Int) (t : Addr) (old : Value) (w : World) (hg : EtC w) (ht0 : w.cell? t = some old) (hf0 : w.frozen? t = false) :
    Calls Tryz.prog 71 #[.iface 43 (.int .i64 k), .iface 131 (.pointer (some t))] w fun ev w' => ev = .returned (.bool true) ∧ w' = ((((w.alloc (.cells #[.pointer (some t)] 131)).alloc (.cells #[.pointer (some ⟨2, 131, none⟩), .pointer (some ⟨w.heap.size, 0, none⟩), .int .u64 150] 200)).alloc (.cells #[.pointer (some ⟨2, 131, none⟩), .pointer (some ⟨w.heap.size, 0, none⟩), .int .u64 150] 200)).alloc (.cells #[.int .i64 k] 43)).setCell t (.int .i64 k) := by
  have x1 := @run_callFunc_extern Tryz.prog 123 _ (fun args => ReflectliteValue.unpack (args.getD 0 (.tuple #[]))) Tryz.func123 (by kernel_rfl) (by kernel_rfl) (by kernel_rfl) (by kernel_rfl)
  have x2 := @run_callFunc_extern Tryz.prog 124 _ (ReflectliteValue.methodAny (ReflectliteValue.valueError "reflectlite.Value.Type" 0) (fun t _ _ _ => ReflectliteType.toType t)) Tryz.func124 (by kernel_rfl) (by kernel_rfl) (by kernel_rfl) (by kernel_rfl)
  have x3 := @run_callFunc_extern Tryz.prog 125 _ (ReflectliteValue.method (ReflectliteValue.valueError "reflectlite.Value.IsNil" 0) ReflectliteValue.isNil) Tryz.func125 (by kernel_rfl) (by kernel_rfl) (by kernel_rfl) (by kernel_rfl)
  have x4 := @run_callFunc_extern Tryz.prog 303 _ (ReflectliteType.abiMethod fun t => do pure (.int .u8 (← Rtype.kind t))) Tryz.func303 (by kernel_rfl) (by kernel_rfl) (by kernel_rfl) (by kernel_rfl)
  have x5 := @run_callFunc_extern Tryz.prog 315 _ (ReflectliteType.method ReflectliteType.elem) Tryz.func315 (by kernel_rfl) (by kernel_rfl) (by kernel_rfl) (by kernel_rfl)
  have x6 := @run_callFunc_extern Tryz.prog 316 _ (ReflectliteType.relation "Implements" ReflectliteType.implements_) Tryz.func316 (by kernel_rfl) (by kernel_rfl) (by kernel_rfl) (by kernel_rfl)
  have x7 := @run_callFunc_extern Tryz.prog 193 _ ReflectliteType.typeOf Tryz.func193 (by kernel_rfl) (by kernel_rfl) (by kernel_rfl) (by kernel_rfl)
  have x8 := @run_callFunc_extern Tryz.prog 313 _ (ReflectliteType.relation "AssignableTo" ReflectliteType.assignableTo) Tryz.func313 (by kernel_rfl) (by kernel_rfl) (by kernel_rfl) (by kernel_rfl)
  have x9 := @run_callFunc_extern Tryz.prog 194 _ (ReflectliteValue.method (ReflectliteValue.valueError "reflectlite.Value.Elem" 0) ReflectliteValue.elem) Tryz.func194 (by kernel_rfl) (by kernel_rfl) (by kernel_rfl) (by kernel_rfl)
  have x0 := @run_callFunc_extern Tryz.prog 195 _ ReflectliteValue.set Tryz.func195 (by kernel_rfl) (by kernel_rfl) (by kernel_rfl) (by kernel_rfl)
  have y0 := vTarE
  have y1 := tTarE
  have y2 := kTarE
  have y3 := kElE
  have y4 := eTarE
  have y5 := iElE
  have y6 := oElE
  have y7 := aElE
  have y8 := vElE
  have n8 := isNilTarE ⟨w.heap.size, 0, none⟩ t ((w.alloc (.cells #[.pointer (some t)] 131)).alloc (.cells #[.pointer (some ⟨2, 131, none⟩), .pointer (some ⟨w.heap.size, 0, none⟩), .int .u64 150] 200)) (by simp)
  have hlt : 0 < w.heap.size := etC_lt hg
  have hg2 : ((w.alloc (.cells #[.pointer (some t)] 131)).alloc (.cells #[.pointer (some ⟨2, 131, none⟩), .pointer (some ⟨w.heap.size, 0, none⟩), .int .u64 150] 200)).cell? ⟨0, 0, none⟩ = some (.iface 264 (.agg #[.pointer (some ⟨2, 79, none⟩)])) := by
    rw [World.cell?_alloc_lt _ _ ⟨0, 0, none⟩ (by simp <;> omega), World.cell?_alloc_lt _ _ ⟨0, 0, none⟩ hlt]
    exact hg
  have htl : t.block < w.heap.size := by
    rcases Nat.lt_or_ge t.block w.heap.size with h | h
    · exact h
    · simp [World.cell?, Array.getElem?_eq_none h] at ht0
  have el := elemVE ⟨w.heap.size, 0, none⟩ t (((w.alloc (.cells #[.pointer (some t)] 131)).alloc (.cells #[.pointer (some ⟨2, 131, none⟩), .pointer (some ⟨w.heap.size, 0, none⟩), .int .u64 150] 200)).alloc (.cells #[.pointer (some ⟨2, 131, none⟩), .pointer (some ⟨w.heap.size, 0, none⟩), .int .u64 150] 200)) (by rw [World.cell?_alloc_lt _ _ ⟨w.heap.size, 0, none⟩ (by simp; omega)]; simp)
  have st := setElE t ⟨w.heap.size + 1 + 1 + 1, 0, none⟩ k old ((((w.alloc (.cells #[.pointer (some t)] 131)).alloc (.cells #[.pointer (some ⟨2, 131, none⟩), .pointer (some ⟨w.heap.size, 0, none⟩), .int .u64 150] 200)).alloc (.cells #[.pointer (some ⟨2, 131, none⟩), .pointer (some ⟨w.heap.size, 0, none⟩), .int .u64 150] 200)).alloc (.cells #[.int .i64 k] 43))
    (by rw [World.cell?_alloc_at _ _ _ _ (by simp)]; rfl)
    (by rw [World.cell?_alloc_lt _ _ t (by simp; omega), World.cell?_alloc_lt _ _ t (by simp; omega), World.cell?_alloc_lt _ _ t (by simp; omega), World.cell?_alloc_lt _ _ t htl]; exact ht0)
    (by rw [World.frozen?_alloc_old _ _ t (by simp; omega), World.frozen?_alloc_old _ _ t (by simp; omega), World.frozen?_alloc_old _ _ t (by simp; omega), World.frozen?_alloc_old _ _ t (Nat.ne_of_lt htl)]; exact hf0)
  clear hg
  go_enter Tryz.func71, Tryz.ntmps71
  go_wp2
  refine wp_loop_rounds 1 ?_
  rw [rounds_succ]
  go_wp2
  go_ret
  exact ⟨rfl, rfl⟩

set_option maxHeartbeats 4000000 in
theorem as_fault (e : Addr) (t : Addr) (old : Value) (w : World) (hg : EtC w) (ht0 : w.cell? t = some old) (hf0 : w.frozen? t = false) :
    Calls Tryz.prog 71 #[.iface 128 (.pointer (some e)), .iface 130 (.pointer (some t))] w fun ev w' => ev = .returned (.bool true) ∧ w' = ((((w.alloc (.cells #[.pointer (some t)] 130)).alloc (.cells #[.pointer (some ⟨2, 130, none⟩), .pointer (some ⟨w.heap.size, 0, none⟩), .int .u64 150] 200)).alloc (.cells #[.pointer (some ⟨2, 130, none⟩), .pointer (some ⟨w.heap.size, 0, none⟩), .int .u64 150] 200)).alloc (.cells #[.pointer (some e)] 128)).setCell t (.pointer (some e)) := by
  have x1 := @run_callFunc_extern Tryz.prog 123 _ (fun args => ReflectliteValue.unpack (args.getD 0 (.tuple #[]))) Tryz.func123 (by kernel_rfl) (by kernel_rfl) (by kernel_rfl) (by kernel_rfl)
  have x2 := @run_callFunc_extern Tryz.prog 124 _ (ReflectliteValue.methodAny (ReflectliteValue.valueError "reflectlite.Value.Type" 0) (fun t _ _ _ => ReflectliteType.toType t)) Tryz.func124 (by kernel_rfl) (by kernel_rfl) (by kernel_rfl) (by kernel_rfl)
  have x3 := @run_callFunc_extern Tryz.prog 125 _ (ReflectliteValue.method (ReflectliteValue.valueError "reflectlite.Value.IsNil" 0) ReflectliteValue.isNil) Tryz.func125 (by kernel_rfl) (by kernel_rfl) (by kernel_rfl) (by kernel_rfl)
  have x4 := @run_callFunc_extern Tryz.prog 303 _ (ReflectliteType.abiMethod fun t => do pure (.int .u8 (← Rtype.kind t))) Tryz.func303 (by kernel_rfl) (by kernel_rfl) (by kernel_rfl) (by kernel_rfl)
  have x5 := @run_callFunc_extern Tryz.prog 315 _ (ReflectliteType.method ReflectliteType.elem) Tryz.func315 (by kernel_rfl) (by kernel_rfl) (by kernel_rfl) (by kernel_rfl)
  have x6 := @run_callFunc_extern Tryz.prog 316 _ (ReflectliteType.relation "Implements" ReflectliteType.implements_) Tryz.func316 (by kernel_rfl) (by kernel_rfl) (by kernel_rfl) (by kernel_rfl)
  have x7 := @run_callFunc_extern Tryz.prog 193 _ ReflectliteType.typeOf Tryz.func193 (by kernel_rfl) (by kernel_rfl) (by kernel_rfl) (by kernel_rfl)
  have x8 := @run_callFunc_extern Tryz.prog 313 _ (ReflectliteType.relation "AssignableTo" ReflectliteType.assignableTo) Tryz.func313 (by kernel_rfl) (by kernel_rfl) (by kernel_rfl) (by kernel_rfl)
  have x9 := @run_callFunc_extern Tryz.prog 194 _ (ReflectliteValue.method (ReflectliteValue.valueError "reflectlite.Value.Elem" 0) ReflectliteValue.elem) Tryz.func194 (by kernel_rfl) (by kernel_rfl) (by kernel_rfl) (by kernel_rfl)
  have x0 := @run_callFunc_extern Tryz.prog 195 _ ReflectliteValue.set Tryz.func195 (by kernel_rfl) (by kernel_rfl) (by kernel_rfl) (by kernel_rfl)
  have y0 := vTarF
  have y1 := tTarF
  have y2 := kTarF
  have y3 := kElF
  have y4 := eTarF
  have y5 := iElF
  have y6 := oElF
  have y7 := aElF
  have y8 := vElF
  have n8 := isNilTarF ⟨w.heap.size, 0, none⟩ t ((w.alloc (.cells #[.pointer (some t)] 130)).alloc (.cells #[.pointer (some ⟨2, 130, none⟩), .pointer (some ⟨w.heap.size, 0, none⟩), .int .u64 150] 200)) (by simp)
  have hlt : 0 < w.heap.size := etC_lt hg
  have hg2 : ((w.alloc (.cells #[.pointer (some t)] 130)).alloc (.cells #[.pointer (some ⟨2, 130, none⟩), .pointer (some ⟨w.heap.size, 0, none⟩), .int .u64 150] 200)).cell? ⟨0, 0, none⟩ = some (.iface 264 (.agg #[.pointer (some ⟨2, 79, none⟩)])) := by
    rw [World.cell?_alloc_lt _ _ ⟨0, 0, none⟩ (by simp <;> omega), World.cell?_alloc_lt _ _ ⟨0, 0, none⟩ hlt]
    exact hg
  have htl : t.block < w.heap.size := by
    rcases Nat.lt_or_ge t.block w.heap.size with h | h
    · exact h
    · simp [World.cell?, Array.getElem?_eq_none h] at ht0
  have el := elemVF ⟨w.heap.size, 0, none⟩ t (((w.alloc (.cells #[.pointer (some t)] 130)).alloc (.cells #[.pointer (some ⟨2, 130, none⟩), .pointer (some ⟨w.heap.size, 0, none⟩), .int .u64 150] 200)).alloc (.cells #[.pointer (some ⟨2, 130, none⟩), .pointer (some ⟨w.heap.size, 0, none⟩), .int .u64 150] 200)) (by rw [World.cell?_alloc_lt _ _ ⟨w.heap.size, 0, none⟩ (by simp; omega)]; simp)
  have st := setElF t ⟨w.heap.size + 1 + 1 + 1, 0, none⟩ e old ((((w.alloc (.cells #[.pointer (some t)] 130)).alloc (.cells #[.pointer (some ⟨2, 130, none⟩), .pointer (some ⟨w.heap.size, 0, none⟩), .int .u64 150] 200)).alloc (.cells #[.pointer (some ⟨2, 130, none⟩), .pointer (some ⟨w.heap.size, 0, none⟩), .int .u64 150] 200)).alloc (.cells #[.pointer (some e)] 128))
    (by rw [World.cell?_alloc_at _ _ _ _ (by simp)]; rfl)
    (by rw [World.cell?_alloc_lt _ _ t (by simp; omega), World.cell?_alloc_lt _ _ t (by simp; omega), World.cell?_alloc_lt _ _ t (by simp; omega), World.cell?_alloc_lt _ _ t htl]; exact ht0)
    (by rw [World.frozen?_alloc_old _ _ t (by simp; omega), World.frozen?_alloc_old _ _ t (by simp; omega), World.frozen?_alloc_old _ _ t (by simp; omega), World.frozen?_alloc_old _ _ t (Nat.ne_of_lt htl)]; exact hf0)
  clear hg
  go_enter Tryz.func71, Tryz.ntmps71
  go_wp2
  refine wp_loop_rounds 1 ?_
  rw [rounds_succ]
  go_wp2
  go_ret
  exact ⟨rfl, rfl⟩

set_option maxHeartbeats 4000000 in
theorem as_through (k : Int) (pb : Nat) (t : Addr) (old : Value) (w : World) (h1 : w.cell? ⟨pb, 1, none⟩ = some (.iface 43 (.int .i64 k))) (hg : EtC w) (ht0 : w.cell? t = some old) (hf0 : w.frozen? t = false) :
    Calls Tryz.prog 71 #[.iface 128 (.pointer (some ⟨pb, 0, none⟩)), .iface 131 (.pointer (some t))] w fun ev w' => ev = .returned (.bool true) ∧ w' = ((((w.alloc (.cells #[.pointer (some t)] 131)).alloc (.cells #[.pointer (some ⟨2, 131, none⟩), .pointer (some ⟨w.heap.size, 0, none⟩), .int .u64 150] 200)).alloc (.cells #[.pointer (some ⟨2, 131, none⟩), .pointer (some ⟨w.heap.size, 0, none⟩), .int .u64 150] 200)).alloc (.cells #[.int .i64 k] 43)).setCell t (.int .i64 k) := by
  have x1 := @run_callFunc_extern Tryz.prog 123 _ (fun args => ReflectliteValue.unpack (args.getD 0 (.tuple #[]))) Tryz.func123 (by kernel_rfl) (by kernel_rfl) (by kernel_rfl) (by kernel_rfl)
  have x2 := @run_callFunc_extern Tryz.prog 124 _ (ReflectliteValue.methodAny (ReflectliteValue.valueError "reflectlite.Value.Type" 0) (fun t _ _ _ => ReflectliteType.toType t)) Tryz.func124 (by kernel_rfl) (by kernel_rfl) (by kernel_rfl) (by kernel_rfl)
  have x3 := @run_callFunc_extern Tryz.prog 125 _ (ReflectliteValue.method (ReflectliteValue.valueError "reflectlite.Value.IsNil" 0) ReflectliteValue.isNil) Tryz.func125 (by kernel_rfl) (by kernel_rfl) (by kernel_rfl) (by kernel_rfl)
  have x4 := @run_callFunc_extern Tryz.prog 303 _ (ReflectliteType.abiMethod fun t => do pure (.int .u8 (← Rtype.kind t))) Tryz.func303 (by kernel_rfl) (by kernel_rfl) (by kernel_rfl) (by kernel_rfl)
  have x5 := @run_callFunc_extern Tryz.prog 315 _ (ReflectliteType.method ReflectliteType.elem) Tryz.func315 (by kernel_rfl) (by kernel_rfl) (by kernel_rfl) (by kernel_rfl)
  have x6 := @run_callFunc_extern Tryz.prog 316 _ (ReflectliteType.relation "Implements" ReflectliteType.implements_) Tryz.func316 (by kernel_rfl) (by kernel_rfl) (by kernel_rfl) (by kernel_rfl)
  have x7 := @run_callFunc_extern Tryz.prog 193 _ ReflectliteType.typeOf Tryz.func193 (by kernel_rfl) (by kernel_rfl) (by kernel_rfl) (by kernel_rfl)
  have x8 := @run_callFunc_extern Tryz.prog 313 _ (ReflectliteType.relation "AssignableTo" ReflectliteType.assignableTo) Tryz.func313 (by kernel_rfl) (by kernel_rfl) (by kernel_rfl) (by kernel_rfl)
  have x9 := @run_callFunc_extern Tryz.prog 194 _ (ReflectliteValue.method (ReflectliteValue.valueError "reflectlite.Value.Elem" 0) ReflectliteValue.elem) Tryz.func194 (by kernel_rfl) (by kernel_rfl) (by kernel_rfl) (by kernel_rfl)
  have x0 := @run_callFunc_extern Tryz.prog 195 _ ReflectliteValue.set Tryz.func195 (by kernel_rfl) (by kernel_rfl) (by kernel_rfl) (by kernel_rfl)
  have y0 := vTarE
  have y1 := tTarE
  have y2 := kTarE
  have y3 := kElE
  have y4 := eTarE
  have y5 := iElE
  have y6 := oElE
  have y7 := aElE
  have y8 := vElE
  have y9 := oFault
  have y10 := aFault
  have y11 := noAsF
  have y12 := unwrapF
  have n8 := isNilTarE ⟨w.heap.size, 0, none⟩ t ((w.alloc (.cells #[.pointer (some t)] 131)).alloc (.cells #[.pointer (some ⟨2, 131, none⟩), .pointer (some ⟨w.heap.size, 0, none⟩), .int .u64 150] 200)) (by simp)
  have hlt : 0 < w.heap.size := etC_lt hg
  have hg2 : ((w.alloc (.cells #[.pointer (some t)] 131)).alloc (.cells #[.pointer (some ⟨2, 131, none⟩), .pointer (some ⟨w.heap.size, 0, none⟩), .int .u64 150] 200)).cell? ⟨0, 0, none⟩ = some (.iface 264 (.agg #[.pointer (some ⟨2, 79, none⟩)])) := by
    rw [World.cell?_alloc_lt _ _ ⟨0, 0, none⟩ (by simp <;> omega), World.cell?_alloc_lt _ _ ⟨0, 0, none⟩ hlt]
    exact hg
  have htl : t.block < w.heap.size := by
    rcases Nat.lt_or_ge t.block w.heap.size with h | h
    · exact h
    · simp [World.cell?, Array.getElem?_eq_none h] at ht0
  have el := elemVE ⟨w.heap.size, 0, none⟩ t (((w.alloc (.cells #[.pointer (some t)] 131)).alloc (.cells #[.pointer (some ⟨2, 131, none⟩), .pointer (some ⟨w.heap.size, 0, none⟩), .int .u64 150] 200)).alloc (.cells #[.pointer (some ⟨2, 131, none⟩), .pointer (some ⟨w.heap.size, 0, none⟩), .int .u64 150] 200)) (by rw [World.cell?_alloc_lt _ _ ⟨w.heap.size, 0, none⟩ (by simp; omega)]; simp)
  have st := setElE t ⟨w.heap.size + 1 + 1 + 1, 0, none⟩ k old ((((w.alloc (.cells #[.pointer (some t)] 131)).alloc (.cells #[.pointer (some ⟨2, 131, none⟩), .pointer (some ⟨w.heap.size, 0, none⟩), .int .u64 150] 200)).alloc (.cells #[.pointer (some ⟨2, 131, none⟩), .pointer (some ⟨w.heap.size, 0, none⟩), .int .u64 150] 200)).alloc (.cells #[.int .i64 k] 43))
    (by rw [World.cell?_alloc_at _ _ _ _ (by simp)]; rfl)
    (by rw [World.cell?_alloc_lt _ _ t (by simp; omega), World.cell?_alloc_lt _ _ t (by simp; omega), World.cell?_alloc_lt _ _ t (by simp; omega), World.cell?_alloc_lt _ _ t htl]; exact ht0)
    (by rw [World.frozen?_alloc_old _ _ t (by simp; omega), World.frozen?_alloc_old _ _ t (by simp; omega), World.frozen?_alloc_old _ _ t (by simp; omega), World.frozen?_alloc_old _ _ t (Nat.ne_of_lt htl)]; exact hf0)
  clear hg
  have hpl : pb < w.heap.size := World.block_lt_of_cell? w ⟨pb, 1, none⟩ h1
  have h3 : (((w.alloc (.cells #[.pointer (some t)] 131)).alloc (.cells #[.pointer (some ⟨2, 131, none⟩), .pointer (some ⟨w.heap.size, 0, none⟩), .int .u64 150] 200)).alloc (.cells #[.pointer (some ⟨2, 131, none⟩), .pointer (some ⟨w.heap.size, 0, none⟩), .int .u64 150] 200)).cell? ⟨pb, 1, none⟩ = some (.iface 43 (.int .i64 k)) := by
    rw [World.cell?_alloc_lt _ _ ⟨pb, 1, none⟩ (by simp; omega), World.cell?_alloc_lt _ _ ⟨pb, 1, none⟩ (by simp; omega), World.cell?_alloc_lt _ _ ⟨pb, 1, none⟩ hpl]
    exact h1
  clear h1
  go_enter Tryz.func71, Tryz.ntmps71
  go_wp2
  refine wp_loop_rounds 2 ?_
  rw [rounds_succ]
  go_wp2
  rw [rounds_succ]
  go_wp2
  go_ret
  exact ⟨rfl, rfl⟩
end Go.Proofs.YteppocjgodmpdaaGreatDoor
/-
  What a call of errors.As leaves of its target's block, and of the others. No conditions.
-/
namespace Go.Proofs.YteppocjgodmpdaaGreatDoor
set_option maxRecDepth 100000
open Go.RowKit

theorem one_row {W : World} {g : Nat} {t : TypeId} {v : Value} (h : Row W g t [v]) : W.cell? ⟨g, 0, none⟩ = some v := h.cell rfl
theorem asR {w w' : World} {g : Nat} {ty a b c d : TypeId} {v z : Value} {x y u r : Array Value} (hR : Row w g ty [z]) (hw : w' = ((((w.alloc (.cells x a)).alloc (.cells y b)).alloc (.cells u c)).alloc (.cells r d)).setCell ⟨g, 0, none⟩ v) : Row w' g ty [v] ∧ Only g w w' := by
  subst hw
  refine ⟨((((hR.alloc _).alloc _).alloc _).alloc _).setCell 0 v, Only.setCell (Only.later ?_ (Nat.le_of_lt hR.lt)) 0 v⟩
  exact below_new (below_new (below_new (below_new (Below.refl _ _) _) _) _) _
theorem below_only {B g : Nat} {w w' w'' : World} (hb : Below B w w') (ho : Only g w' w'') (hg : B ≤ g) : Below B w w'' := hb.trans (ho.below.mono hg)
end Go.Proofs.YteppocjgodmpdaaGreatDoor
/-
  Faults in their blocks, and what the statements' Told makes of an error. Condition: errors.errorType holds the handle of the type error (EtC).
-/
namespace Go.Proofs.YteppocjgodmpdaaGreatDoor
set_option maxRecDepth 100000
open Go.RowKit
set_option linter.unusedSimpArgs false
set_option linter.unusedVariables false

/-! ### Faults -/
/-- A fault in its block. -/
def Flt (W : World) (g : Nat) (s k : Int) : Prop := Row W g 133 [.int .i64 s, .iface 43 (.int .i64 k)]
theorem Flt.later {w w' : World} {g : Nat} {s k : Int} (h : Flt w g s k) (hb : Below w.heap.size w w') : Flt w' g s k := Row.later h hb
/-- What a call says of an error: the value, and the block of a fault. -/
abbrev errV (g : Nat) : Value := .iface 128 (.pointer (some ⟨g, 0, none⟩))
theorem size_flt : (Tryz.prog.info? 133).map (·.size) = some 2 := by kernel_rfl

/-! ### Told -/
theorem told_nil (w : World) : Calls Tryz.prog 32 #[.nilIface] w fun e w' => e = .returned (.tuple #[.int .i64 0, .int .i64 0]) ∧ Below w.heap.size w w' := by
  go_enter Tryz.func32, Tryz.ntmps32
  go_wp2
  go_ret2
  exact ⟨rfl, Below.refl _ _⟩
set_option maxHeartbeats 4000000 in
theorem told_flt (g : Nat) (s k : Int) (w : World) (hg : EtC w) (hF : Flt w g s k) :
    Calls Tryz.prog 32 #[errV g] w fun e w' => e = .returned (.tuple #[.int .i64 s, .int .i64 k]) ∧ Below w.heap.size w w' := by
  unfold errV
  go_enter Tryz.func32, Tryz.ntmps32
  go_upto_region 5 with fail
  have hgl := etC_lt hg
  have hgF := Row.lt hF
  have hR1 : Row (w.alloc (.cells #[.pointer none] 128)) w.heap.size 128 [.pointer none] := Row.new w _ _ _ rfl
  have hR2 : Row ((w.alloc (.cells #[.pointer none] 128)).alloc (.cells #[.int .i64 0] 43)) (w.heap.size + 1) 43 [.int .i64 0] := Row.new_at _ _ (by simp) _ _ _ rfl
  replace hR1 := hR1.alloc (.cells #[.int .i64 0] 43)
  have hb := below_new (below_new (Below.refl w.heap.size w) (.cells #[.pointer none] 128)) (.cells #[.int .i64 0] 43)
  generalize (w.alloc (.cells #[.pointer none] 128)).alloc (.cells #[.int .i64 0] 43) = W1 at hR1 hR2 hb ⊢
  have hg1 := hg.later hb
  have hF1 := hF.later hb
  go_wp2_with fail
  refine (as_fault ⟨g, 0, none⟩ ⟨w.heap.size, 0, none⟩ (.pointer none) W1 hg1 (one_row hR1) (hR1.frozen 0)).mono ?_
  rintro e w2 ⟨rfl, hw2⟩
  obtain ⟨hR3, ho⟩ := asR hR1 hw2
  have hg2 := hg1.only ho (by omega)
  have hF2 : Flt w2 g s k := (ho.other g (by omega) (Row.lt hF1)).trans hF1
  have hR4 : Row w2 (w.heap.size + 1) 43 [.int .i64 0] := (ho.other _ (by omega) hR2.lt).trans hR2
  replace hb := below_only hb ho (Nat.le_refl _)
  clear hw2 hR1 hR2 hg1 hF1 ho
  have hf1 : w2.cell? ⟨g, 1, none⟩ = some (.iface 43 (.int .i64 k)) := Row.cell hF2 rfl
  go_wp2_with fail
  refine (as_through k g ⟨w.heap.size + 1, 0, none⟩ (.int .i64 0) w2 hf1 hg2 (one_row hR4) (hR4.frozen 0)).mono ?_
  rintro e w3 ⟨rfl, hw3⟩
  obtain ⟨hR5, ho⟩ := asR hR4 hw3
  have hF3 : Flt w3 g s k := (ho.other g (by omega) (Row.lt hF2)).trans hF2
  have hR6 : Row w3 w.heap.size 128 [.pointer (some ⟨g, 0, none⟩)] := (ho.other _ (by omega) hR3.lt).trans hR3
  replace hb := below_only hb ho (by omega)
  clear hw3 hR3 hR4 hg2 hF2 hf1 ho
  have c0 := one_row hR6
  have c1 := one_row hR5
  have c2 : w3.cell? ⟨g, 0, none⟩ = some (.int .i64 s) := Row.cell hF3 rfl
  go_wp2_with fail
  go_upto_region 7 with fail
  go_region
  all_goals go_wp2_with fail
  all_goals go_ret2
  all_goals exact ⟨rfl, hb.drew⟩

/-- What a call says of an error: nil, or a fault in its block. -/
def ErrV (W : World) (v : Value) (s k : Int) : Prop := (k = 0 ∧ v = .nilIface) ∨ (k ≠ 0 ∧ ∃ g, v = errV g ∧ Flt W g s k)
theorem ErrV.later {w w' : World} {v : Value} {s k : Int} (h : ErrV w v s k) (hb : Below w.heap.size w w') : ErrV w' v s k := by
  rcases h with h | ⟨h, g, e, hF⟩
  · exact .inl h
  · exact .inr ⟨h, g, e, hF.later hb⟩
/-- What Told makes of any such error. -/
theorem told_err (v : Value) (s k : Int) (w : World) (hg : EtC w) (hE : ErrV w v s k) (h0 : Hid (k = 0 → s = 0)) :
    Calls Tryz.prog 32 #[v] w fun e w' => e = .returned (.tuple #[.int .i64 s, .int .i64 k]) ∧ Below w.heap.size w w' := by
  rcases hE with ⟨rfl, rfl⟩ | ⟨_, g, rfl, hF⟩
  · have hs := h0.out rfl
    subst hs
    exact told_nil w
  · exact told_flt g s k w hg hF
end Go.Proofs.YteppocjgodmpdaaGreatDoor
/-
  Plain facts on numbers and their bytes, words and their bytes: each is read as it was, and has no other bytes. No program is named here.
-/
namespace Go.Proofs.YteppocjgodmpdaaGreatDoor
set_option maxRecDepth 100000

/-- The n last bytes of a number, the highest first. -/
def dig : Nat → Nat → List UInt8
  | 0, _ => []
  | n + 1, v => dig n (v / 256) ++ [UInt8.ofNat v]

theorem putL_dig (v : Nat) : putL v = dig 8 v := by
  simp [putL, dig, List.range, List.range.loop, Nat.div_div_eq_div_mul]
theorem dig_length (n v : Nat) : (dig n v).length = n := by
  induction n generalizing v with
  | zero => rfl
  | succ n ih => simp [dig, ih]
theorem valN_dig (n v : Nat) : valN (dig n v) = v % 256 ^ n := by
  induction n generalizing v with
  | zero => simp [dig, valN, Nat.mod_one]
  | succ n ih =>
    rw [dig, valN_snoc, ih, UInt8.toNat_ofNat', show 256 ^ (n + 1) = 256 * 256 ^ n by rw [Nat.pow_succ, Nat.mul_comm], Nat.mod_mul]
    omega
theorem dig_valN (l : List UInt8) (n : Nat) (h : l.length = n) : dig n (valN l) = l := by
  induction n generalizing l with
  | zero => rw [List.eq_nil_of_length_eq_zero h]; rfl
  | succ n ih =>
    rcases List.eq_nil_or_concat l with rfl | ⟨l', c, rfl⟩
    · simp at h
    · simp only [List.concat_eq_append] at h ⊢
      have hc : c.toNat < 256 := c.toNat_lt
      rw [valN_snoc, dig, show (valN l' * 256 + c.toNat) / 256 = valN l' by omega, ih l' (by simpa using h)]
      congr 2
      apply UInt8.toNat_inj.1
      rw [UInt8.toNat_ofNat']
      omega
theorem valN_zeros (k : Nat) (l : List UInt8) : valN (List.replicate k 0 ++ l) = valN l := by
  induction k with
  | zero => simp
  | succ k ih =>
    rw [← ih]
    simp [valN, List.replicate_succ]
theorem valN_dropWhile (l : List UInt8) : valN (l.dropWhile (· == 0)) = valN l := by
  induction l with
  | nil => rfl
  | cons a l ih =>
    rw [List.dropWhile_cons]
    split
    · rename_i h
      have h0 : a = 0 := by simpa using h
      subst h0
      rw [ih]
      simp [valN]
    · rfl
theorem valN_putL (v : Nat) (hv : v < 18446744073709551616) : valN (putL v) = v := by
  rw [putL_dig, valN_dig]
  exact Nat.mod_eq_of_lt hv
theorem valN_leastL (v : Nat) (hv : v < 18446744073709551616) : valN (leastL v) = v := by
  rw [leastL, valN_dropWhile, valN_putL v hv]
theorem leastL_length (v : Nat) : (leastL v).length ≤ 8 := by
  have h : (putL v).length = 8 := rfl
  have := (List.dropWhile_sublist (fun x : UInt8 => x == 0) (l := putL v)).length_le
  unfold leastL
  omega
theorem head_dropWhile (l : List UInt8) : (l.dropWhile (· == 0)).head? ≠ some 0 := by
  induction l with
  | nil => simp
  | cons a l ih =>
    rw [List.dropWhile_cons]
    split
    · exact ih
    · rename_i h
      simpa using h
theorem getR_putL (v : Nat) (hv : v < 18446744073709551616) : getR (putL v) = (v, 0) := by
  unfold getR
  rw [if_pos (show (putL v).length = 8 from rfl), valN_putL v hv]
theorem fromR_leastL (v : Nat) (hv : v < 18446744073709551616) : fromR (leastL v) = (v, 0) := by
  unfold fromR
  have := leastL_length v
  rw [if_neg (by omega), if_neg (show ¬ (leastL v).head? = some 0 from head_dropWhile _), valN_leastL v hv]
theorem leastL_valN (l : List UInt8) (h8 : l.length ≤ 8) (h0 : l.head? ≠ some 0) : leastL (valN l) = l := by
  unfold leastL
  have e : putL (valN l) = List.replicate (8 - l.length) 0 ++ l := by
    rw [putL_dig, ← valN_zeros (8 - l.length) l]
    exact dig_valN _ 8 (by simp; omega)
  rw [e]
  clear e
  generalize 8 - l.length = k
  induction k with
  | zero =>
    cases l with
    | nil => rfl
    | cons a l =>
      simp only [List.replicate_zero, List.nil_append]
      rw [List.dropWhile_cons, if_neg (by simpa using h0)]
  | succ k ih =>
    rw [List.replicate_succ, List.cons_append, List.dropWhile_cons, if_pos (by rfl)]
    exact ih
theorem fromR_bad (l : List UInt8) (h : (fromR l).2 ≠ 0) : (fromR l).1 = 0 := by
  unfold fromR at h ⊢
  split
  · rfl
  · split
    · rfl
    · rename_i h1 h2
      rw [if_neg h1, if_neg h2] at h
      exact absurd rfl h
theorem fromR_good (l : List UInt8) (h : (fromR l).2 = 0) : leastL (fromR l).1 = l ∧ (fromR l).1 < 18446744073709551616 := by
  unfold fromR at h ⊢
  by_cases h1 : 8 < l.length
  · rw [if_pos h1] at h
    cases h
  · by_cases h2 : l.head? = some 0
    · rw [if_neg h1, if_pos h2] at h
      cases h
    · rw [if_neg h1, if_neg h2]
      exact ⟨leastL_valN l (by omega) h2, valN_lt8 l (by omega)⟩
theorem leastL_inj (v w : Nat) (hv : v < 18446744073709551616) (hw : w < 18446744073709551616) : leastL v = leastL w ↔ v = w :=
  ⟨fun h => by rw [← valN_leastL v hv, h, valN_leastL w hw], fun h => by rw [h]⟩
theorem valN_cons (a : UInt8) (l : List UInt8) : valN (a :: l) = a.toNat * 256 ^ l.length + valN l := by
  have h : ∀ (l : List UInt8) (v : Nat), l.foldl (fun v c => v * 256 + c.toNat) v = v * 256 ^ l.length + valN l := by
    intro l
    induction l with
    | nil => intro v; simp [valN]
    | cons c l ih =>
      intro v
      have e : valN (c :: l) = (0 * 256 + c.toNat) * 256 ^ l.length + valN l := ih _
      rw [List.foldl_cons, ih, e, List.length_cons, Nat.pow_succ, Nat.zero_mul, Nat.zero_add, Nat.add_mul, Nat.mul_assoc, Nat.mul_comm 256, Nat.add_assoc]
  have := h l a.toNat
  simpa [valN] using this
theorem leastL_mono (v w : Nat) (hv : v < 18446744073709551616) (hw : w < 18446744073709551616) (h : v ≤ w) : (leastL v).length ≤ (leastL w).length := by
  rcases Nat.lt_or_ge (leastL w).length (leastL v).length with hlt | hge
  · exfalso
    have h1 := valN_lt (leastL w)
    rw [valN_leastL w hw] at h1
    have h2 := valN_leastL v hv
    have h3 := head_dropWhile (putL v)
    change (leastL v).head? ≠ some 0 at h3
    match hm : leastL v, hlt, h2, h3 with
    | [], hlt, _, _ => simp at hlt
    | a :: l, hlt, h2, h3 =>
      have ha : a.toNat ≠ 0 := fun e => h3 (by simp [UInt8.toNat_inj.1 (show a.toNat = (0 : UInt8).toNat from e)])
      rw [valN_cons] at h2
      have h4 : 256 ^ (leastL w).length ≤ 256 ^ l.length := Nat.pow_le_pow_right (by omega) (by simp at hlt; omega)
      have h5 : 256 ^ l.length ≤ a.toNat * 256 ^ l.length := Nat.le_mul_of_pos_left _ (by omega)
      omega
  · exact hge
theorem valN_bytesW (x : UInt32) : valN (bytesW x) = x.toNat := by
  have hx := u32_lt x
  simp only [bytesW, valN, List.foldl_cons, List.foldl_nil, UInt8.toNat_ofNat']
  omega
theorem wordsL_bytesL (l : List UInt32) : wordsL (bytesL l) = l := by
  induction l with
  | nil => rfl
  | cons x l ih =>
    have e : bytesL (x :: l) = bytesW x ++ bytesL l := by simp [bytesL]
    rw [e]
    show UInt32.ofNat (valN (bytesW x)) :: wordsL (bytesL l) = _
    rw [ih, valN_bytesW]
    congr 1
    apply UInt32.toNat_inj.1
    rw [UInt32.toNat_ofNat', Nat.mod_eq_of_lt (u32_lt x)]
theorem bytesW_valN (a b c d : UInt8) : bytesW (UInt32.ofNat (valN [a, b, c, d])) = [a, b, c, d] := by
  have ha : a.toNat < 256 := a.toNat_lt
  have hb : b.toNat < 256 := b.toNat_lt
  have hc : c.toNat < 256 := c.toNat_lt
  have hd : d.toNat < 256 := d.toNat_lt
  have hv : valN [a, b, c, d] = ((a.toNat * 256 + b.toNat) * 256 + c.toNat) * 256 + d.toNat := by simp [valN]
  have ht : (UInt32.ofNat (valN [a, b, c, d])).toNat = ((a.toNat * 256 + b.toNat) * 256 + c.toNat) * 256 + d.toNat := by rw [UInt32.toNat_ofNat', hv]; omega
  unfold bytesW
  rw [ht]
  congr 1
  · apply UInt8.toNat_inj.1; rw [UInt8.toNat_ofNat']; omega
  congr 1
  · apply UInt8.toNat_inj.1; rw [UInt8.toNat_ofNat']; omega
  congr 1
  · apply UInt8.toNat_inj.1; rw [UInt8.toNat_ofNat']; omega
  congr 1
  · apply UInt8.toNat_inj.1; rw [UInt8.toNat_ofNat']; omega
theorem bytesL_wordsL : ∀ (l : List UInt8), bytesL (wordsL l) = l.take (l.length / 4 * 4)
  | [] => rfl
  | [_] => by rw [wordsL_short _ (by simp)]; simp [bytesL]
  | [_, _] => by rw [wordsL_short _ (by simp)]; simp [bytesL]
  | [_, _, _] => by rw [wordsL_short _ (by simp)]; simp [bytesL]
  | a :: b :: c :: d :: l => by
    have e : bytesL (wordsL (a :: b :: c :: d :: l)) = bytesW (UInt32.ofNat (valN [a, b, c, d])) ++ bytesL (wordsL l) := by simp [wordsL, bytesL]
    rw [e, bytesW_valN, bytesL_wordsL l]
    have e2 : (a :: b :: c :: d :: l).length / 4 * 4 = l.length / 4 * 4 + 4 := by simp; omega
    rw [e2]
    simp [List.take_succ_cons]

end Go.Proofs.YteppocjgodmpdaaGreatDoor
/-
  Layer 12 as plain functions: a payload's bytes, and what any bytes are; read back; cut, and with more behind. No conditions but those typed.
-/
namespace Go.Proofs.YteppocjgodmpdaaGreatDoor
set_option maxRecDepth 100000
set_option linter.unusedVariables false
set_option linter.unusedSimpArgs false

/-! ### Numbers -/
def numF (x : Nat) : List UInt8 := UInt8.ofNat (leastL x).length :: leastL x
/-- Why not (0: fine), the number, and what is left. -/
def readN : List UInt8 → Int × Nat × List UInt8
  | [] => (2, 0, [])
  | n :: r => if 8 < n.toNat then (4, 0, []) else if r.length < n.toNat then (2, 0, []) else if 0 < n.toNat ∧ r.head? = some 0 then (3, 0, []) else (0, valN (r.take n.toNat), r.drop n.toNat)
theorem readN_cons (n : UInt8) (r : List UInt8) : readN (n :: r) = if 8 < n.toNat then (4, 0, []) else if r.length < n.toNat then (2, 0, []) else if 0 < n.toNat ∧ r.head? = some 0 then (3, 0, []) else (0, valN (r.take n.toNat), r.drop n.toNat) := rfl
theorem least_count (x : Nat) : (UInt8.ofNat (leastL x).length).toNat = (leastL x).length := by
  have := leastL_length x
  rw [UInt8.toNat_ofNat']
  omega
theorem least_head (x : Nat) : (leastL x).head? ≠ some 0 := head_dropWhile (putL x)
theorem head_append (a r : List UInt8) (h : 0 < a.length) : (a ++ r).head? = a.head? := by
  cases a with
  | nil => simp at h
  | cons c a => rfl
theorem readN_num (x : Nat) (r : List UInt8) (hx : x < 18446744073709551616) : readN (numF x ++ r) = (0, x, r) := by
  unfold numF
  rw [List.cons_append, readN_cons, least_count]
  have h8 := leastL_length x
  rw [if_neg (by omega), if_neg (by rw [List.length_append]; omega)]
  rw [if_neg (by
    rintro ⟨h1, h2⟩
    rw [head_append _ _ h1] at h2
    exact least_head x h2)]
  rw [List.take_left, List.drop_left, valN_leastL x hx]
theorem readN_good (b r : List UInt8) (x : Nat) (h : readN b = (0, x, r)) : b = numF x ++ r ∧ x < 18446744073709551616 := by
  cases b with
  | nil => simp [readN] at h
  | cons n s =>
    rw [readN_cons] at h
    split at h
    · simp at h
    · rename_i h8
      split at h
      · simp at h
      · rename_i hl
        split at h
        · simp at h
        · rename_i h0
          simp only [Prod.mk.injEq, true_and] at h
          obtain ⟨e1, e2⟩ := h
          have htl : (s.take n.toNat).length = n.toNat := by rw [List.length_take]; omega
          have hhd : (s.take n.toNat).head? ≠ some 0 := by
            intro hh
            apply h0
            rcases Nat.eq_zero_or_pos n.toNat with hz | hp
            · rw [hz, List.take_zero] at hh
              simp at hh
            · refine ⟨hp, ?_⟩
              rw [← hh, List.head?_take, if_neg (by omega)]
          have hle := leastL_valN (s.take n.toNat) (by omega) hhd
          have hv := valN_lt8 (s.take n.toNat) (by omega)
          rw [e1] at hle hv
          refine ⟨?_, hv⟩
          unfold numF
          rw [hle, htl, UInt8.ofNat_toNat, ← e2, List.cons_append, List.take_append_drop]
/-- Cut within a number: too short. -/
theorem readN_cut (x : Nat) (hx : x < 18446744073709551616) (k : Nat) (hk : k < (numF x).length) : (readN ((numF x).take k)).1 = 2 := by
  cases k with
  | zero => rfl
  | succ k =>
    unfold numF at hk ⊢
    rw [List.length_cons] at hk
    rw [List.take_succ_cons, readN_cons, least_count]
    have := leastL_length x
    rw [if_neg (by omega), if_pos (by rw [List.length_take]; omega)]
theorem readN_left (x : Nat) (r : List UInt8) (hx : x < 18446744073709551616) (k : Nat) (hk : (numF x).length ≤ k) : readN ((numF x ++ r).take k) = (0, x, r.take (k - (numF x).length)) := by
  rw [List.take_append, List.take_of_length_le hk, readN_num x _ hx]
theorem readN_short (x : Nat) (r : List UInt8) (hx : x < 18446744073709551616) (k : Nat) (hk : k < (numF x).length) : (readN ((numF x ++ r).take k)).1 = 2 := by
  rw [List.take_append_of_le_length (by omega)]
  exact readN_cut x hx k hk

/-! ### Payloads -/
def writeF (t e c : Nat) (tag : List UInt8) : List UInt8 := 87 :: (numF t ++ (numF e ++ (numF c ++ tag)))
def readT (t e c : Nat) (r : List UInt8) : Int × Nat × Nat × Nat × List UInt8 := if r.length < 8 then (2, 0, 0, 0, []) else if 8 < r.length then (4, 0, 0, 0, []) else (0, t, e, c, r)
def readC (t e : Nat) (b : List UInt8) : Int × Nat × Nat × Nat × List UInt8 := if (readN b).1 = 0 then readT t e (readN b).2.1 (readN b).2.2 else ((readN b).1, 0, 0, 0, [])
def readE (t : Nat) (b : List UInt8) : Int × Nat × Nat × Nat × List UInt8 := if (readN b).1 = 0 then readC t (readN b).2.1 (readN b).2.2 else ((readN b).1, 0, 0, 0, [])
def readB (b : List UInt8) : Int × Nat × Nat × Nat × List UInt8 := if (readN b).1 = 0 then readE (readN b).2.1 (readN b).2.2 else ((readN b).1, 0, 0, 0, [])
def readF : List UInt8 → Int × Nat × Nat × Nat × List UInt8
  | [] => (2, 0, 0, 0, [])
  | x :: r => if x ≠ 87 then (3, 0, 0, 0, []) else readB r
theorem readF_cons (x : UInt8) (r : List UInt8) : readF (x :: r) = if x ≠ 87 then (3, 0, 0, 0, []) else readB r := rfl
section
variable {t e c : Nat} {tag : List UInt8} (ht : t < 18446744073709551616) (he : e < 18446744073709551616) (hc : c < 18446744073709551616)
include ht he hc
theorem read_write_of (r : List UInt8) : readF (87 :: (numF t ++ (numF e ++ (numF c ++ r)))) = readT t e c r := by
  rw [readF_cons, if_neg (by simp)]
  unfold readB
  rw [readN_num t _ ht, if_pos rfl]
  unfold readE
  dsimp only
  rw [readN_num e _ he, if_pos rfl]
  unfold readC
  dsimp only
  rw [readN_num c _ hc, if_pos rfl]
theorem read_write (h8 : tag.length = 8) : readF (writeF t e c tag) = (0, t, e, c, tag) := by
  unfold writeF
  rw [read_write_of ht he hc]
  unfold readT
  rw [if_neg (by omega), if_neg (by omega)]
theorem read_more (more : List UInt8) (h8 : tag.length = 8) (hm : 0 < more.length) : (readF (writeF t e c tag ++ more)).1 = 4 := by
  have e1 : writeF t e c tag ++ more = 87 :: (numF t ++ (numF e ++ (numF c ++ (tag ++ more)))) := by
    unfold writeF
    simp only [List.cons_append, List.append_assoc]
  rw [e1, read_write_of ht he hc]
  unfold readT
  rw [if_neg (by rw [List.length_append]; omega), if_pos (by rw [List.length_append]; omega)]
theorem read_cut (k : Nat) (h8 : tag.length = 8) (hk : k < (writeF t e c tag).length) : (readF ((writeF t e c tag).take k)).1 = 2 := by
  cases k with
  | zero => rfl
  | succ k =>
    unfold writeF at hk ⊢
    rw [List.length_cons] at hk
    rw [List.take_succ_cons, readF_cons, if_neg (by simp)]
    unfold readB
    by_cases h1 : k < (numF t).length
    · have := readN_short t (numF e ++ (numF c ++ tag)) ht k h1
      rw [if_neg (by rw [this]; decide)]
      exact this
    · rw [readN_left t _ ht k (by omega), if_pos rfl]
      unfold readE
      dsimp only
      generalize hk1 : k - (numF t).length = k1
      by_cases h2 : k1 < (numF e).length
      · have := readN_short e (numF c ++ tag) he k1 h2
        rw [if_neg (by rw [this]; decide)]
        exact this
      · rw [readN_left e _ he k1 (by omega), if_pos rfl]
        unfold readC
        dsimp only
        generalize hk2 : k1 - (numF e).length = k2
        by_cases h3 : k2 < (numF c).length
        · have := readN_short c tag hc k2 h3
          rw [if_neg (by rw [this]; decide)]
          exact this
        · rw [readN_left c _ hc k2 (by omega), if_pos rfl]
          unfold readT
          dsimp only
          simp only [List.length_append] at hk
          rw [if_pos (by rw [List.length_take]; omega)]
end
theorem read_good (b : List UInt8) (t e c : Nat) (tag : List UInt8) (h : readF b = (0, t, e, c, tag)) : b = writeF t e c tag ∧ tag.length = 8 ∧ t < 18446744073709551616 ∧ e < 18446744073709551616 ∧ c < 18446744073709551616 := by
  cases b with
  | nil => simp [readF] at h
  | cons x r =>
    rw [readF_cons] at h
    split at h
    · simp at h
    · rename_i hx
      have ex : x = 87 := Classical.byContradiction hx
      unfold readB at h
      split at h
      · rename_i h1
        obtain ⟨b1, l1⟩ := readN_good r (readN r).2.2 (readN r).2.1 (by rw [← h1])
        generalize (readN r).2.1 = t1 at h b1 l1
        generalize (readN r).2.2 = r1 at h b1
        unfold readE at h
        split at h
        · rename_i h2
          obtain ⟨b2, l2⟩ := readN_good r1 (readN r1).2.2 (readN r1).2.1 (by rw [← h2])
          generalize (readN r1).2.1 = e1 at h b2 l2
          generalize (readN r1).2.2 = r2 at h b2
          unfold readC at h
          split at h
          · rename_i h3
            obtain ⟨b3, l3⟩ := readN_good r2 (readN r2).2.2 (readN r2).2.1 (by rw [← h3])
            generalize (readN r2).2.1 = c1 at h b3 l3
            generalize (readN r2).2.2 = r3 at h b3
            unfold readT at h
            split at h
            · simp at h
            · split at h
              · simp at h
              · simp only [Prod.mk.injEq, true_and] at h
                obtain ⟨rfl, rfl, rfl, rfl⟩ := h
                refine ⟨?_, by omega, l1, l2, l3⟩
                unfold writeF
                rw [ex, b1, b2, b3]
          · rename_i h3
            simp only [Prod.mk.injEq] at h
            exact absurd h.1 h3
        · rename_i h2
          simp only [Prod.mk.injEq] at h
          exact absurd h.1 h2
      · rename_i h1
        simp only [Prod.mk.injEq] at h
        exact absurd h.1 h1
theorem write_inj {t e c t' e' c' : Nat} {tag tag' : List UInt8} (ht : t < 18446744073709551616) (he : e < 18446744073709551616) (hc : c < 18446744073709551616) (ht' : t' < 18446744073709551616) (he' : e' < 18446744073709551616) (hc' : c' < 18446744073709551616) (h8 : tag.length = 8) (h8' : tag'.length = 8) :
    writeF t e c tag = writeF t' e' c' tag' ↔ t = t' ∧ e = e' ∧ c = c' ∧ tag = tag' := by
  constructor
  · intro h
    have h1 := read_write ht he hc h8
    rw [h, read_write ht' he' hc' h8'] at h1
    simp only [Prod.mk.injEq, true_and] at h1
    obtain ⟨rfl, rfl, rfl, rfl⟩ := h1
    exact ⟨rfl, rfl, rfl, rfl⟩
  · rintro ⟨rfl, rfl, rfl, rfl⟩
    rfl
theorem num_length (x : Nat) : 1 ≤ (numF x).length ∧ (numF x).length ≤ 9 := by
  have := leastL_length x
  unfold numF
  rw [List.length_cons]
  omega
theorem write_length (t e c : Nat) (tag : List UInt8) (h8 : tag.length = 8) : 12 ≤ (writeF t e c tag).length ∧ (writeF t e c tag).length ≤ 36 := by
  have h1 := num_length t
  have h2 := num_length e
  have h3 := num_length c
  unfold writeF
  rw [List.length_cons, List.length_append, List.length_append, List.length_append]
  omega
/-- What a tag is of. -/
def msgF (t e c : Nat) : List UInt8 := 67 :: (putL t ++ (putL e ++ putL c))
theorem putL_len (v : Nat) : (putL v).length = 8 := rfl
theorem putL_injF {v w : Nat} (hv : v < 18446744073709551616) (hw : w < 18446744073709551616) (h : putL v = putL w) : v = w := by rw [← valN_putL v hv, h, valN_putL w hw]
theorem msg_inj {t e c t' e' c' : Nat} (ht : t < 18446744073709551616) (he : e < 18446744073709551616) (hc : c < 18446744073709551616) (ht' : t' < 18446744073709551616) (he' : e' < 18446744073709551616) (hc' : c' < 18446744073709551616) : msgF t e c = msgF t' e' c' ↔ t = t' ∧ e = e' ∧ c = c' := by
  constructor
  · intro h
    unfold msgF at h
    injection h with _ h
    obtain ⟨h1, h2⟩ := List.append_inj h rfl
    obtain ⟨h3, h4⟩ := List.append_inj h2 rfl
    exact ⟨putL_injF ht ht' h1, putL_injF he he' h3, putL_injF hc hc' h4⟩
  · rintro ⟨rfl, rfl, rfl⟩
    rfl
end Go.Proofs.YteppocjgodmpdaaGreatDoor
/-
  Layer 11 as plain functions: bits of bytes, groups of seven that are alike or eight, and back; what comes of so many bytes; rows. No conditions but those typed.
-/
namespace Go.Proofs.YteppocjgodmpdaaGreatDoor
set_option maxRecDepth 100000
set_option linter.unusedVariables false
set_option linter.unusedSimpArgs false

/-! ### Bits -/
def bitB (c : UInt8) (k : Nat) : Bool := decide (c.toNat / 2 ^ k % 2 = 1)
def bits8 (c : UInt8) : List Bool := [bitB c 7, bitB c 6, bitB c 5, bitB c 4, bitB c 3, bitB c 2, bitB c 1, bitB c 0]
def oneB (x : Bool) : UInt8 := if x then 1 else 0
def val8 (l : List Bool) : UInt8 := l.foldl (fun v x => 2 * v + oneB x) 0
def bitsL (b : List UInt8) : List Bool := b.flatMap bits8
theorem all_bytesS {p : UInt8 → Prop} (h : ∀ n, n < 256 → p (UInt8.ofNat n)) (x : UInt8) : p x := by
  have := h x.toNat x.toNat_lt
  rwa [UInt8.ofNat_toNat] at this
theorem val_bits (c : UInt8) : val8 (bits8 c) = c := by
  refine all_bytesS (p := fun c => val8 (bits8 c) = c) ?_ c
  decide +kernel
theorem bits_val : ∀ a b c d e f g h : Bool, bits8 (val8 [a, b, c, d, e, f, g, h]) = [a, b, c, d, e, f, g, h] := by decide +kernel
theorem bits_val8 : ∀ (l : List Bool), l.length = 8 → bits8 (val8 l) = l
  | [a, b, c, d, e, f, g, h], _ => bits_val a b c d e f g h
theorem bits_length (b : List UInt8) : (bitsL b).length = 8 * b.length := by
  induction b with
  | nil => rfl
  | cons c b ih =>
    show (bits8 c ++ bitsL b).length = _
    rw [List.length_append, ih, List.length_cons]
    show 8 + 8 * b.length = _
    omega

/-! ### Groups -/
/-- The next seven bits; where there are fewer, ones behind them. -/
def g7 (l : List Bool) : List Bool := [l.getD 0 true, l.getD 1 true, l.getD 2 true, l.getD 3 true, l.getD 4 true, l.getD 5 true, l.getD 6 true]
def eighth (l : List Bool) : Bool := if g7 l = List.replicate 7 false then true else if g7 l = List.replicate 7 true then false else l.getD 7 true
def taken (l : List Bool) : Nat := if g7 l = List.replicate 7 false ∨ g7 l = List.replicate 7 true then 7 else 8
def stuffF : Nat → List Bool → List UInt8
  | 0, _ => []
  | n + 1, l => if l = [] then [] else val8 (g7 l ++ [eighth l]) :: stuffF n (l.drop (taken l))
def stuffL (l : List Bool) : List UInt8 := stuffF l.length l
def putSt (b : List UInt8) : List UInt8 := stuffL (bitsL b)
theorem taken_pos (l : List Bool) : 7 ≤ taken l ∧ taken l ≤ 8 := by unfold taken; split <;> omega
theorem stuffF_more : ∀ (n m : Nat) (l : List Bool), l.length ≤ n → l.length ≤ m → stuffF n l = stuffF m l
  | 0, 0, _, _, _ => rfl
  | 0, m + 1, l, h, _ => by
    have : l = [] := List.eq_nil_of_length_eq_zero (by omega)
    subst this
    rfl
  | n + 1, 0, l, _, h => by
    have : l = [] := List.eq_nil_of_length_eq_zero (by omega)
    subst this
    rfl
  | n + 1, m + 1, l, h, g => by
    unfold stuffF
    split
    · rfl
    · have := taken_pos l
      rw [stuffF_more n m (l.drop (taken l)) (by rw [List.length_drop]; omega) (by rw [List.length_drop]; omega)]
theorem stuff_nil : stuffL [] = [] := rfl
theorem stuff_cons (l : List Bool) (h : l ≠ []) : stuffL l = val8 (g7 l ++ [eighth l]) :: stuffL (l.drop (taken l)) := by
  have hl : 0 < l.length := List.length_pos_iff.2 h
  have := taken_pos l
  unfold stuffL
  obtain ⟨n, hn⟩ : ∃ n, l.length = n + 1 := ⟨l.length - 1, by omega⟩
  rw [hn]
  conv => lhs; unfold stuffF
  rw [if_neg h, stuffF_more n (l.drop (taken l)).length _ (by rw [List.length_drop]; omega) (Nat.le_refl _)]

/-! ### Back -/
def rawG (c : UInt8) : List Bool := if (bits8 c).take 7 = List.replicate 7 false ∨ (bits8 c).take 7 = List.replicate 7 true then (bits8 c).take 7 else bits8 c
def rawL (s : List UInt8) : List Bool := s.flatMap rawG
def cut8 : List Bool → List UInt8
  | a :: b :: c :: d :: e :: f :: g :: h :: t => val8 [a, b, c, d, e, f, g, h] :: cut8 t
  | _ => []
def candL (s : List UInt8) : List UInt8 := cut8 (rawL s)
theorem cut_ones : ∀ p, p < 8 → cut8 (List.replicate p true) = [] := by decide +kernel
theorem cut_bits (p : Nat) (hp : p < 8) : ∀ b : List UInt8, cut8 (bitsL b ++ List.replicate p true) = b
  | [] => cut_ones p hp
  | c :: b => by
    show cut8 (bits8 c ++ bitsL b ++ List.replicate p true) = _
    rw [List.append_assoc]
    show val8 (bits8 c) :: cut8 (bitsL b ++ List.replicate p true) = _
    rw [val_bits, cut_bits p hp b]
theorem g7_length (l : List Bool) : (g7 l ++ [eighth l]).length = 8 := rfl
theorem raw_group (l : List Bool) : rawG (val8 (g7 l ++ [eighth l])) = if g7 l = List.replicate 7 false ∨ g7 l = List.replicate 7 true then g7 l else g7 l ++ [eighth l] := by
  unfold rawG
  rw [bits_val8 _ (g7_length l)]
  rfl
theorem getD_true (l : List Bool) (i : Nat) (h : l.length ≤ i) : l.getD i true = true := by rw [List.getD_eq_getElem?_getD, List.getElem?_eq_none h]; rfl
/-- So many bits from a list, ones behind it. -/
theorem pad_take : ∀ (l : List Bool) (n : Nat), (List.range n).map (fun i => l.getD i true) = l.take n ++ List.replicate (n - l.length) true
  | [], n => by
    rw [List.take_nil, List.nil_append, List.length_nil, Nat.sub_zero]
    apply List.ext_getElem
    · simp
    · intro i h1 h2
      simp
  | a :: l, 0 => by simp
  | a :: l, n + 1 => by
    rw [List.range_succ_eq_map, List.map_cons, List.map_map, List.take_succ_cons, List.cons_append, List.length_cons, Nat.add_sub_add_right, ← pad_take l n]
    rfl
theorem g7_pad (l : List Bool) : g7 l = l.take 7 ++ List.replicate (7 - l.length) true := by rw [← pad_take]; rfl
theorem g8_pad (l : List Bool) : g7 l ++ [l.getD 7 true] = l.take 8 ++ List.replicate (8 - l.length) true := by rw [← pad_take]; rfl
theorem raw_stuff : ∀ (n : Nat) (l : List Bool), l.length ≤ n → ∃ p, p < 8 ∧ rawL (stuffL l) = l ++ List.replicate p true
  | 0, l, h => by
    have : l = [] := List.eq_nil_of_length_eq_zero (by omega)
    subst this
    exact ⟨0, by omega, rfl⟩
  | n + 1, l, h => by
    by_cases h0 : l = []
    · subst h0
      exact ⟨0, by omega, rfl⟩
    · have hl : 0 < l.length := List.length_pos_iff.2 h0
      obtain ⟨p, hp, ih⟩ := raw_stuff n (l.drop (taken l)) (by have := taken_pos l; rw [List.length_drop]; omega)
      have e : rawL (stuffL l) = rawG (val8 (g7 l ++ [eighth l])) ++ rawL (stuffL (l.drop (taken l))) := by rw [stuff_cons l h0]; rfl
      rw [e, ih, raw_group]
      by_cases ha : g7 l = List.replicate 7 false ∨ g7 l = List.replicate 7 true
      · rw [if_pos ha]
        have ht : taken l = 7 := by unfold taken; rw [if_pos ha]
        rw [ht, g7_pad]
        rcases Nat.lt_or_ge l.length 7 with h7 | h7
        · refine ⟨7 - l.length, by omega, ?_⟩
          have hd : l.drop 7 = [] := List.drop_of_length_le (by omega)
          rw [ht, hd] at ih
          have hp0 : p = 0 := by
            have := congrArg List.length ih
            simp [stuff_nil, rawL] at this
            omega
          subst hp0
          rw [hd, List.take_of_length_le (by omega)]
          simp
        · refine ⟨p, hp, ?_⟩
          rw [show 7 - l.length = 0 by omega, List.replicate_zero, List.append_nil, ← List.append_assoc, List.take_append_drop]
      · rw [if_neg ha]
        have ht : taken l = 8 := by unfold taken; rw [if_neg ha]
        have he : eighth l = l.getD 7 true := by
          unfold eighth
          rw [if_neg (fun h => ha (.inl h)), if_neg (fun h => ha (.inr h))]
        rw [ht, he, g8_pad]
        rcases Nat.lt_or_ge l.length 8 with h8 | h8
        · refine ⟨8 - l.length, by omega, ?_⟩
          have hd : l.drop 8 = [] := List.drop_of_length_le (by omega)
          rw [ht, hd] at ih
          have hp0 : p = 0 := by
            have := congrArg List.length ih
            simp [stuff_nil, rawL] at this
            omega
          subst hp0
          rw [hd, List.take_of_length_le (by omega)]
          simp
        · refine ⟨p, hp, ?_⟩
          rw [show 8 - l.length = 0 by omega, List.replicate_zero, List.append_nil, ← List.append_assoc, List.take_append_drop]
theorem cand_put (b : List UInt8) : candL (putSt b) = b := by
  obtain ⟨p, hp, e⟩ := raw_stuff _ (bitsL b) (Nat.le_refl _)
  unfold candL putSt
  rw [e, cut_bits p hp]
theorem put_inj {a b : List UInt8} (h : putSt a = putSt b) : a = b := by rw [← cand_put a, h, cand_put]

/-! ### How many -/
theorem stuff_length : ∀ (n : Nat) (l : List Bool), l.length ≤ n → l.length ≤ 8 * (stuffL l).length ∧ 7 * (stuffL l).length ≤ l.length + 6
  | 0, l, h => by
    have : l = [] := List.eq_nil_of_length_eq_zero (by omega)
    subst this
    exact ⟨by simp, by simp [stuff_nil]⟩
  | n + 1, l, h => by
    by_cases h0 : l = []
    · subst h0
      exact ⟨by simp, by simp [stuff_nil]⟩
    · have hl : 0 < l.length := List.length_pos_iff.2 h0
      have ht := taken_pos l
      obtain ⟨h1, h2⟩ := stuff_length n (l.drop (taken l)) (by rw [List.length_drop]; omega)
      rw [stuff_cons l h0, List.length_cons]
      rw [List.length_drop] at h1 h2
      omega
theorem put_length (b : List UInt8) : b.length ≤ (putSt b).length ∧ (putSt b).length ≤ (8 * b.length + 6) / 7 := by
  obtain ⟨h1, h2⟩ := stuff_length _ (bitsL b) (Nat.le_refl _)
  have := bits_length b
  unfold putSt
  omega

/-! ### None of them is all alike -/
theorem group_not (l : List Bool) : val8 (g7 l ++ [eighth l]) ≠ 0 ∧ val8 (g7 l ++ [eighth l]) ≠ 255 := by
  have key : ∀ c : UInt8, val8 (g7 l ++ [eighth l]) = c → g7 l ++ [eighth l] = bits8 c := fun c e => by rw [← e, bits_val8 _ (g7_length l)]
  have e0 : bits8 0 = List.replicate 7 false ++ [false] := by decide +kernel
  have e1 : bits8 255 = List.replicate 7 true ++ [true] := by decide +kernel
  constructor
  · intro e
    have h := key 0 e
    rw [e0] at h
    obtain ⟨h1, h2⟩ := List.append_inj h rfl
    unfold eighth at h2
    rw [if_pos h1] at h2
    simp at h2
  · intro e
    have h := key 255 e
    rw [e1] at h
    obtain ⟨h1, h2⟩ := List.append_inj h rfl
    unfold eighth at h2
    rw [if_neg (by rw [h1]; decide), if_pos h1] at h2
    simp at h2
theorem stuff_not : ∀ (n : Nat) (l : List Bool), l.length ≤ n → ∀ c ∈ stuffL l, c ≠ 0 ∧ c ≠ 255
  | 0, l, h => by
    have : l = [] := List.eq_nil_of_length_eq_zero (by omega)
    subst this
    intro c hc
    cases hc
  | n + 1, l, h => by
    by_cases h0 : l = []
    · subst h0
      intro c hc
      cases hc
    · have hl : 0 < l.length := List.length_pos_iff.2 h0
      have ht := taken_pos l
      rw [stuff_cons l h0]
      intro c hc
      rcases List.mem_cons.1 hc with rfl | hc
      · exact group_not l
      · exact stuff_not n _ (by rw [List.length_drop]; omega) c hc
theorem put_not (b : List UInt8) : ∀ c ∈ putSt b, c ≠ 0 ∧ c ≠ 255 := stuff_not _ _ (Nat.le_refl _)

/-! ### Rows -/
/-- The last bit, and how many of them are alike up to it. -/
def rowS (s : Bool × Nat) (x : Bool) : Bool × Nat := (x, if s.2 ≠ 0 ∧ x ≠ s.1 then 1 else s.2 + 1)
def rowB (s : Bool × Nat) (l : List Bool) : Bool × Nat := l.foldl rowS s
theorem row_byte : ∀ n, n < 256 → n ≠ 0 → n ≠ 255 → ∀ x : Bool, ∀ r, r < 8 → (∀ k, k ≤ 8 → (rowB (x, r) ((bits8 (UInt8.ofNat n)).take k)).2 ≤ 14) ∧ (rowB (x, r) (bits8 (UInt8.ofNat n))).2 < 8 := by decide +kernel
theorem row_append (s : Bool × Nat) (a b : List Bool) : rowB s (a ++ b) = rowB (rowB s a) b := by unfold rowB; rw [List.foldl_append]
theorem rows_fine : ∀ (s : List UInt8) (x : Bool) (r : Nat), r < 8 → (∀ c ∈ s, c ≠ 0 ∧ c ≠ 255) → ∀ k, (rowB (x, r) ((bitsL s).take k)).2 ≤ 14
  | [], x, r, hr, _, k => by
    simp [bitsL, rowB]
    omega
  | c :: s, x, r, hr, hs, k => by
    have hc := hs c List.mem_cons_self
    have hb := row_byte c.toNat c.toNat_lt (fun e => hc.1 (UInt8.toNat_inj.1 e)) (fun e => hc.2 (UInt8.toNat_inj.1 e)) x r hr
    rw [UInt8.ofNat_toNat] at hb
    have e : bitsL (c :: s) = bits8 c ++ bitsL s := rfl
    rw [e]
    rcases Nat.lt_or_ge k 9 with h | h
    · rw [List.take_append_of_le_length (by show k ≤ 8; omega)]
      exact hb.1 k (by omega)
    · rw [List.take_append, List.take_of_length_le (by show 8 ≤ k; omega), row_append]
      have h2 := rows_fine s (rowB (x, r) (bits8 c)).1 (rowB (x, r) (bits8 c)).2 hb.2 (fun d hd => hs d (List.mem_cons_of_mem _ hd)) (k - (bits8 c).length)
      exact h2
end Go.Proofs.YteppocjgodmpdaaGreatDoor
/-
  Sums of elements times powers of unlike ones that vanish at as many powers as there are of them, vanish term by term (plain mathematics, for stages 9 and 10). No conditions but those typed.
-/
namespace Go.Proofs.YteppocjgodmpdaaGreatDoor
set_option maxRecDepth 100000
set_option linter.unusedVariables false
set_option linter.unusedSimpArgs false

def sumV : List (UInt8 × UInt8) → Nat → UInt8
  | [], _ => 0
  | (e, x) :: t, i => addB (mulB e (powB x i)) (sumV t i)
theorem pow_succ' (x : UInt8) (i : Nat) : powB x (i + 1) = mulB (powB x i) x := rfl
/-- One of them taken off. -/
theorem sumV_off (x : UInt8) : ∀ (t : List (UInt8 × UInt8)) (i : Nat), sumV (t.map fun p => (mulB p.1 (addB p.2 x), p.2)) i = addB (sumV t (i + 1)) (mulB x (sumV t i))
  | [], i => by
    show (0 : UInt8) = addB 0 (mulB x 0)
    rw [mul_zero, add_zero]
  | (e, y) :: t, i => by
    have ih := sumV_off x t i
    show addB (mulB (mulB e (addB y x)) (powB y i)) (sumV (t.map fun p => (mulB p.1 (addB p.2 x), p.2)) i) = addB (addB (mulB e (powB y (i + 1))) (sumV t (i + 1))) (mulB x (addB (mulB e (powB y i)) (sumV t i)))
    have h1 : mulB (mulB e (addB y x)) (powB y i) = addB (mulB e (powB y (i + 1))) (mulB x (mulB e (powB y i))) := by
      rw [mul_add_right, mul_add_left, pow_succ', mul_assoc, mul_comm y (powB y i), mul_comm e x, mul_assoc]
    rw [ih, h1, mul_add_right, add_four]
theorem sumV_zero : ∀ (t : List (UInt8 × UInt8)) (i : Nat), (∀ p ∈ t, p.1 = 0) → sumV t i = 0
  | [], i, _ => rfl
  | (e, x) :: t, i, h => by
    have he : e = 0 := h (e, x) (by simp)
    rw [sumV, he, zero_mul, zero_add, sumV_zero t i (fun p hp => h p (by simp [hp]))]
theorem pow_ne (x : UInt8) (hx : x ≠ 0) : ∀ i, powB x i ≠ 0
  | 0 => by
    show (1 : UInt8) ≠ 0
    decide
  | i + 1 => by
    rw [pow_succ']
    exact mul_ne _ _ (pow_ne x hx i) hx
theorem add_zero_eq {a b : UInt8} (h : addB a b = 0) : a = b := by
  have e : addB (addB a b) b = addB 0 b := by rw [h]
  rwa [add_assoc, add_self, add_zero, zero_add] at e
theorem vander : ∀ (n : Nat) (l : List (UInt8 × UInt8)), l.length = n → (l.map Prod.snd).Nodup → (∀ p ∈ l, p.2 ≠ 0) → (∀ i, 1 ≤ i → i ≤ n → sumV l i = 0) → ∀ p ∈ l, p.1 = 0
  | 0, l, hl, _, _, _ => by
    rw [List.eq_nil_of_length_eq_zero hl]
    intro p hp
    cases hp
  | n + 1, [], hl, _, _, _ => by simp at hl
  | n + 1, (e, x) :: t, hl, hd, hn, hs => by
    have hd' : x ∉ t.map Prod.snd ∧ (t.map Prod.snd).Nodup := by simpa using hd
    have hlt : t.length = n := by simpa using hl
    have hx : x ≠ 0 := hn (e, x) (by simp)
    have key : ∀ i, 1 ≤ i → i ≤ n + 1 → sumV t i = mulB e (powB x i) := fun i h1 h2 => (add_zero_eq (hs i h1 h2)).symm
    have ht : ∀ p ∈ t.map (fun p => (mulB p.1 (addB p.2 x), p.2)), p.1 = 0 := by
      refine vander n _ (by rw [List.length_map]; exact hlt) ?_ ?_ ?_
      · rw [List.map_map]
        exact hd'.2
      · intro p hp
        obtain ⟨q, hq, rfl⟩ := List.mem_map.1 hp
        exact hn q (by simp [hq])
      · intro i h1 h2
        rw [sumV_off, key (i + 1) (by omega) (by omega), key i h1 (by omega), pow_succ']
        have : mulB x (mulB e (powB x i)) = mulB e (mulB (powB x i) x) := by
          rw [mul_comm x, mul_assoc]
        rw [this, add_self]
    have h0 : ∀ p ∈ t, p.1 = 0 := fun p hp => by
      have h1 := ht (mulB p.1 (addB p.2 x), p.2) (List.mem_map.2 ⟨p, hp, rfl⟩)
      rcases (mul_eq_zero _ _).1 h1 with h | h
      · exact h
      · exact absurd (List.mem_map.2 ⟨p, hp, add_zero_eq h⟩) hd'.1
    intro p hp
    rcases List.mem_cons.1 hp with rfl | hp
    · have h1 := hs 1 (by omega) (by omega)
      rw [sumV, sumV_zero t 1 h0, add_zero] at h1
      rcases (mul_eq_zero _ _).1 h1 with h | h
      · exact h
      · exact absurd h (pow_ne x hx 1)
    · exact h0 p hp
end Go.Proofs.YteppocjgodmpdaaGreatDoor
/-
  Layer 9 as plain functions: bytes as a polynomial whose last one is the coefficient of 1, signs, what is fine; unlike ones that are fine differ in many places; the generator, and checks by a register. No conditions but those typed.
-/
namespace Go.Proofs.YteppocjgodmpdaaGreatDoor
set_option maxRecDepth 100000
set_option linter.unusedVariables false
set_option linter.unusedSimpArgs false

/-- The value of bytes as a polynomial, the last one the coefficient of 1. -/
def valB (b : List UInt8) (r : UInt8) : UInt8 := evalL b.reverse r
theorem val_nil (r : UInt8) : valB [] r = 0 := rfl
theorem val_snoc (b : List UInt8) (c r : UInt8) : valB (b ++ [c]) r = addB c (mulB r (valB b r)) := by
  unfold valB
  rw [List.reverse_append, List.reverse_singleton, List.singleton_append, evalL]
theorem val_cons (c : UInt8) (b : List UInt8) (r : UInt8) : valB (c :: b) r = addB (valB b r) (mulB c (powB r b.length)) := by
  unfold valB
  rw [List.reverse_cons, eval_snoc, List.length_reverse]
theorem val_append (a : List UInt8) (r : UInt8) : ∀ b : List UInt8, valB (b ++ a) r = addB (valB a r) (mulB (valB b r) (powB r a.length))
  | [] => by rw [List.nil_append, val_nil, zero_mul, add_zero]
  | c :: b => by
    rw [List.cons_append, val_cons, val_append a r b, val_cons, mul_add_left, List.length_append, pow_add, ← mul_assoc, add_assoc]
theorem val_xor (r : UInt8) : ∀ a b : List UInt8, a.length = b.length → valB (List.zipWith addB a b) r = addB (valB a r) (valB b r)
  | [], [], _ => (add_zero 0).symm
  | [], _ :: _, h => by simp at h
  | _ :: _, [], h => by simp at h
  | c :: a, d :: b, h => by
    have hl : a.length = b.length := by simpa using h
    rw [List.zipWith_cons_cons, val_cons, val_cons, val_cons, val_xor r a b hl, List.length_zipWith, hl, Nat.min_self, mul_add_left, add_four]
theorem val_scale (c r : UInt8) : ∀ b : List UInt8, valB (b.map (mulB c)) r = mulB c (valB b r)
  | [] => by rw [List.map_nil, val_nil, mul_zero]
  | d :: b => by rw [List.map_cons, val_cons, val_cons, val_scale c r b, List.length_map, mul_add_right, mul_assoc]

/-- Fine, by n checks (how many bytes there may be let aside). -/
def fineP (b : List UInt8) (n : Nat) : Prop := ∀ i, 1 ≤ i → i ≤ n → valB b (powB 2 i) = 0
theorem fineP.less {b : List UInt8} {n m : Nat} (h : fineP b n) (hm : m ≤ n) : fineP b m := fun i h1 h2 => h i h1 (by omega)
theorem fineP.xor {a b : List UInt8} {n : Nat} (ha : fineP a n) (hb : fineP b n) (hl : a.length = b.length) : fineP (List.zipWith addB a b) n := fun i h1 h2 => by
  rw [val_xor _ _ _ hl, ha i h1 h2, hb i h1 h2, add_zero]
theorem fineP.scale {b : List UInt8} {n : Nat} (h : fineP b n) (c : UInt8) : fineP (b.map (mulB c)) n := fun i h1 h2 => by
  rw [val_scale, h i h1 h2, mul_zero]

/-! ### Distance -/
/-- Each byte, and the power of 2 at its place. -/
def pairsL : List UInt8 → List (UInt8 × UInt8)
  | [] => []
  | c :: b => (c, powB 2 b.length) :: pairsL b
theorem val_pairs (i : Nat) : ∀ b : List UInt8, valB b (powB 2 i) = sumV (pairsL b) i
  | [] => rfl
  | c :: b => by
    rw [val_cons, val_pairs i b, pairsL, sumV, add_comm, ← pow_mul, ← pow_mul, Nat.mul_comm]
theorem pairs_locs : ∀ b : List UInt8, (pairsL b).map Prod.snd = ((List.range b.length).map (powB 2)).reverse
  | [] => rfl
  | c :: b => by
    rw [pairsL, List.map_cons, pairs_locs b, List.length_cons, List.range_succ, List.map_append, List.reverse_append]
    rfl
theorem pairs_els : ∀ b : List UInt8, (pairsL b).map Prod.fst = b
  | [] => rfl
  | c :: b => by rw [pairsL, List.map_cons, pairs_els b]
theorem powB_inj {i j : Nat} (hi : i < 255) (hj : j < 255) (h : powB 2 i = powB 2 j) : i = j := by rw [← log_exp i hi, ← log_exp j hj, h]
theorem nodup_map_on {α β : Type} {f : α → β} : ∀ {l : List α}, l.Nodup → (∀ x ∈ l, ∀ y ∈ l, f x = f y → x = y) → (l.map f).Nodup
  | [], _, _ => List.nodup_nil
  | a :: l, h, hf => by
    rw [List.nodup_cons] at h
    rw [List.map_cons, List.nodup_cons]
    refine ⟨fun hm => ?_, nodup_map_on h.2 (fun x hx y hy => hf x (List.mem_cons_of_mem _ hx) y (List.mem_cons_of_mem _ hy))⟩
    obtain ⟨y, hy, e⟩ := List.mem_map.1 hm
    have := hf y (List.mem_cons_of_mem _ hy) a (List.mem_cons_self) e
    exact h.1 (this ▸ hy)
theorem locs_nodup (b : List UInt8) (h : b.length ≤ 255) : ((pairsL b).map Prod.snd).Nodup := by
  rw [pairs_locs]
  refine (List.Perm.nodup_iff (List.reverse_perm _)).2 ?_
  refine nodup_map_on List.nodup_range (fun x hx y hy e => ?_)
  have h1 := List.mem_range.1 hx
  have h2 := List.mem_range.1 hy
  exact powB_inj (by omega) (by omega) e
theorem locs_ne (b : List UInt8) : ∀ p ∈ pairsL b, p.2 ≠ 0 := fun p hp => by
  have : p.2 ∈ (pairsL b).map Prod.snd := List.mem_map_of_mem hp
  rw [pairs_locs, List.mem_reverse] at this
  obtain ⟨k, _, e⟩ := List.mem_map.1 this
  rw [← e]
  exact exp_ne k
theorem sumV_filter (i : Nat) : ∀ l : List (UInt8 × UInt8), sumV (l.filter fun p => p.1 != 0) i = sumV l i
  | [] => rfl
  | (e, x) :: l => by
    have ih := sumV_filter i l
    by_cases h : e = 0
    · subst h
      rw [List.filter_cons_of_neg (by simp), ih, sumV, zero_mul, zero_add]
    · rw [List.filter_cons_of_pos (by simpa using h), sumV, sumV, ih]
/-- How many bytes aren't 0. -/
def wtL (b : List UInt8) : Nat := (b.filter fun c => c != 0).length
theorem pairs_wt : ∀ b : List UInt8, ((pairsL b).filter fun p => p.1 != 0).length = wtL b
  | [] => rfl
  | c :: b => by
    have ih := pairs_wt b
    unfold wtL at *
    by_cases h : c = 0
    · subst h
      rw [pairsL, List.filter_cons_of_neg (by simp), List.filter_cons_of_neg (by simp), ih]
    · rw [pairsL, List.filter_cons_of_pos (by simpa using h), List.filter_cons_of_pos (by simpa using h), List.length_cons, List.length_cons, ih]
/-- What is fine, and not 0 in no more places than there are checks, is 0. -/
theorem fine_zero (b : List UInt8) (n : Nat) (hl : b.length ≤ 255) (hf : fineP b n) (hw : wtL b ≤ n) : ∀ c ∈ b, c = 0 := by
  have hv := vander (wtL b) ((pairsL b).filter fun p => p.1 != 0) (pairs_wt b) ((List.filter_sublist.map Prod.snd).nodup (locs_nodup b hl)) (fun p hp => locs_ne b p (List.mem_filter.1 hp).1)
    (fun i h1 h2 => by rw [sumV_filter, ← val_pairs]; exact hf i h1 (by omega))
  intro c hc
  rw [← pairs_els b] at hc
  obtain ⟨p, hp, e⟩ := List.mem_map.1 hc
  by_cases h : p.1 = 0
  · rw [← e]; exact h
  · exact absurd (hv p (List.mem_filter.2 ⟨hp, by simpa using h⟩)) h
/-- In how many places two differ. -/
def difL (a b : List UInt8) : Nat := wtL (List.zipWith addB a b)
theorem zip_zero : ∀ a b : List UInt8, a.length = b.length → (∀ c ∈ List.zipWith addB a b, c = 0) → a = b
  | [], [], _, _ => rfl
  | [], _ :: _, h, _ => by simp at h
  | _ :: _, [], h, _ => by simp at h
  | c :: a, d :: b, h, hz => by
    rw [List.zipWith_cons_cons] at hz
    have h1 : c = d := add_zero_eq (hz _ List.mem_cons_self)
    have h2 := zip_zero a b (by simpa using h) (fun x hx => hz x (List.mem_cons_of_mem _ hx))
    rw [h1, h2]
theorem fine_unique (a b : List UInt8) (n : Nat) (hl : a.length = b.length) (h255 : a.length ≤ 255) (ha : fineP a n) (hb : fineP b n) (hd : difL a b ≤ n) : a = b :=
  zip_zero a b hl (fine_zero _ n (by rw [List.length_zipWith]; omega) (ha.xor hb hl) hd)
theorem wt_le (b : List UInt8) : wtL b ≤ b.length := List.length_filter_le _ _
theorem wt_append (a b : List UInt8) : wtL (a ++ b) = wtL a + wtL b := by unfold wtL; rw [List.filter_append, List.length_append]
theorem zip_self (a : List UInt8) : List.zipWith addB a a = List.replicate a.length 0 := by
  induction a with
  | nil => rfl
  | cons c a ih => rw [List.zipWith_cons_cons, ih, add_self, List.length_cons, List.replicate_succ]
theorem wt_zeros (n : Nat) : wtL (List.replicate n 0) = 0 := by
  unfold wtL
  rw [List.filter_eq_nil_iff.2 (fun x hx => by rw [(List.mem_replicate.1 hx).2]; simp)]
  rfl
/-- Checks behind the same data differ in no more places than there are. -/
theorem dif_data (d a b : List UInt8) (h : a.length = b.length) : difL (d ++ a) (d ++ b) ≤ a.length := by
  unfold difL
  rw [List.zipWith_append rfl, wt_append, zip_self, wt_zeros, Nat.zero_add]
  refine Nat.le_trans (wt_le _) ?_
  rw [List.length_zipWith]
  omega
/-- Just one way to put checks makes data fine. -/
theorem checks_unique (d a b : List UInt8) (n : Nat) (ha : a.length = n) (hb : b.length = n) (hl : d.length + n ≤ 255) (fa : fineP (d ++ a) n) (fb : fineP (d ++ b) n) : a = b := by
  have := fine_unique (d ++ a) (d ++ b) n (by simp [ha, hb]) (by simp [ha]; omega) fa fb (by rw [← ha]; exact dif_data d a b (by rw [ha, hb]))
  exact List.append_cancel_left this

/-! ### The generator -/
def genL : Nat → List UInt8
  | 0 => [1]
  | n + 1 => plainL (mulL (genL n) [powB 2 (n + 1), 1])
def IsGen (n : Nat) (g : List UInt8) : Prop := g.length = n + 1 ∧ co g n = 1 ∧ ∀ i, 1 ≤ i → i ≤ n → evalL g (powB 2 i) = 0
theorem gen_is : ∀ n, IsGen n (genL n)
  | 0 => ⟨rfl, rfl, fun i h1 h2 => by omega⟩
  | n + 1 => by
    obtain ⟨h1, h2, h3⟩ := gen_is n
    have hg : genL n ≠ [] := by
      intro e
      rw [e] at h1
      simp at h1
    have hlen : (mulL (genL n) [powB 2 (n + 1), 1]).length = n + 2 := by
      rw [mulL_length _ _ hg (by simp), h1]
      simp
    have htop : co (mulL (genL n) [powB 2 (n + 1), 1]) (n + 1) = 1 := by
      have := mulL_top (genL n) [powB 2 (n + 1), 1] hg (by simp)
      rw [h1] at this
      simp only [List.length_cons, List.length_nil] at this
      rw [show n + 1 + (0 + 1 + 1) - 2 = n + 1 by omega, show n + 1 - 1 = n by omega, h2] at this
      rw [this]
      show mulB 1 1 = 1
      exact mul_one 1
    have hp : plainL (mulL (genL n) [powB 2 (n + 1), 1]) = mulL (genL n) [powB 2 (n + 1), 1] := plain_of_top _ (.inr (by
      rw [hlen, show n + 2 - 1 = n + 1 by omega, htop]
      decide))
    have hq : ∀ r, evalL [powB 2 (n + 1), 1] r = addB (powB 2 (n + 1)) r := fun r => by
      simp only [evalL, mul_zero, add_zero, mul_one]
    unfold genL
    rw [hp]
    refine ⟨hlen, htop, fun i hi1 hi2 => ?_⟩
    rw [eval_mul, hq]
    by_cases h : i ≤ n
    · rw [h3 i hi1 h, zero_mul]
    · have : i = n + 1 := by omega
      rw [this, add_self, mul_zero]

/-! ### The register -/
/-- One byte more: the register, of as many bytes as there are checks. -/
def regL (g reg : List UInt8) (top : UInt8) : List UInt8 := List.zipWith addB (0 :: reg.dropLast) ((g.take reg.length).map (mulB top))
theorem reg_length (g reg : List UInt8) (top : UInt8) (h0 : reg ≠ []) (hg : reg.length ≤ g.length) : (regL g reg top).length = reg.length := by
  unfold regL
  have : 0 < reg.length := List.length_pos_iff.2 h0
  rw [List.length_zipWith, List.length_cons, List.length_dropLast, List.length_map, List.length_take]
  omega
theorem eval_zip (r : UInt8) : ∀ a b : List UInt8, a.length = b.length → evalL (List.zipWith addB a b) r = addB (evalL a r) (evalL b r)
  | [], [], _ => (add_zero 0).symm
  | [], _ :: _, h => by simp at h
  | _ :: _, [], h => by simp at h
  | c :: a, d :: b, h => by
    rw [List.zipWith_cons_cons, evalL, evalL, evalL, eval_zip r a b (by simpa using h), mul_add_right, add_four]
theorem eval_split (p : List UInt8) (n : Nat) (r : UInt8) (h : p.length = n + 1) : evalL p r = addB (evalL (p.take n) r) (mulB (co p n) (powB r n)) := by
  have e : p = p.take n ++ [co p n] := by
    conv => lhs; rw [← List.take_append_drop n p]
    congr 1
    have : p.drop n = [p[n]'(by omega)] := by
      rw [List.drop_eq_getElem_cons (by omega), List.drop_of_length_le (by omega)]
    rw [this, co_lt p n (by omega)]
  conv => lhs; rw [e]
  rw [eval_snoc, List.length_take, Nat.min_eq_left (by omega)]
theorem reg_val (n : Nat) (g reg : List UInt8) (d r : UInt8) (hg : IsGen (n + 1) g) (hr : reg.length = n + 1) (h0 : evalL g r = 0) : evalL (regL g reg (addB d (co reg n))) r = addB (mulB r (evalL reg r)) (mulB d (powB r (n + 1))) := by
  obtain ⟨h1, h2, _⟩ := hg
  have e1 := eval_split g (n + 1) r h1
  rw [h2, one_mul, h0] at e1
  have e2 := eval_split reg n r hr
  have hd : reg.dropLast = reg.take n := by rw [List.dropLast_eq_take, hr]; rfl
  unfold regL
  rw [eval_zip r _ _ (by rw [List.length_cons, List.length_dropLast, List.length_map, List.length_take, h1, hr]; omega), evalL, zero_add, hd, hr]
  have e3 : evalL ((g.take (n + 1)).map (mulB (addB d (co reg n)))) r = mulB (addB d (co reg n)) (evalL (g.take (n + 1)) r) := eval_scale _ _ _
  have e4 : evalL (g.take (n + 1)) r = powB r (n + 1) := add_zero_eq e1.symm
  rw [e3, e4, e2, mul_add_right, mul_add_left, show mulB r (mulB (co reg n) (powB r n)) = mulB (co reg n) (powB r (n + 1)) by rw [← mul_assoc, mul_comm r, mul_assoc, mul_comm r]; rfl]
  generalize mulB r (evalL (reg.take n) r) = x
  generalize mulB d (powB r (n + 1)) = y
  generalize mulB (co reg n) (powB r (n + 1)) = z
  rw [add_comm y z, ← add_assoc]
/-- The register behind some data. -/
def runL (g : List UInt8) (n : Nat) (d : List UInt8) : List UInt8 := d.foldl (fun reg c => regL g reg (addB c (co reg (n - 1)))) (List.replicate n 0)
theorem run_snoc (g : List UInt8) (n : Nat) (d : List UInt8) (c : UInt8) : runL g n (d ++ [c]) = regL g (runL g n d) (addB c (co (runL g n d) (n - 1))) := by unfold runL; rw [List.foldl_append]; rfl
theorem snoc_ind {p : List UInt8 → Prop} (h0 : p []) (h1 : ∀ d c, p d → p (d ++ [c])) (d : List UInt8) : p d := by
  rw [← List.reverse_reverse d]
  induction d.reverse with
  | nil => exact h0
  | cons c d ih => rw [List.reverse_cons]; exact h1 _ _ ih
theorem run_length (g : List UInt8) (n : Nat) (hn : 1 ≤ n) (hg : n ≤ g.length) (d : List UInt8) : (runL g n d).length = n := by
  refine snoc_ind (p := fun d => (runL g n d).length = n) ?_ (fun d c ih => ?_) d
  · simp [runL]
  · have h0 : runL g n d ≠ [] := fun e => by rw [e] at ih; simp at ih; omega
    rw [run_snoc, reg_length _ _ _ h0 (by omega), ih]
theorem eval_zeros (n : Nat) (r : UInt8) : evalL (List.replicate n 0) r = 0 := by
  induction n with
  | zero => rfl
  | succ n ih => rw [List.replicate_succ, evalL, ih, mul_zero, add_zero]
theorem run_val (g : List UInt8) (n : Nat) (hn : 1 ≤ n) (hg : IsGen n g) (i : Nat) (h1 : 1 ≤ i) (h2 : i ≤ n) (d : List UInt8) : evalL (runL g n d) (powB 2 i) = mulB (valB d (powB 2 i)) (powB (powB 2 i) n) := by
  refine snoc_ind (p := fun d => evalL (runL g n d) (powB 2 i) = mulB (valB d (powB 2 i)) (powB (powB 2 i) n)) ?_ (fun d c ih => ?_) d
  · rw [val_nil, zero_mul]
    exact eval_zeros n _
  · obtain ⟨m, rfl⟩ : ∃ m, n = m + 1 := ⟨n - 1, by omega⟩
    rw [run_snoc, Nat.add_sub_cancel, reg_val m g _ c _ hg (run_length g _ hn (by rw [hg.1]; omega) d) (hg.2.2 i h1 h2), ih, val_snoc, mul_add_left, add_comm, mul_assoc]
/-- The data, and its checks. -/
def putS (d : List UInt8) (n : Nat) : List UInt8 := d ++ (runL (genL n) n d).reverse
theorem putS_length (d : List UInt8) (n : Nat) (hn : 1 ≤ n) : (putS d n).length = d.length + n := by
  unfold putS
  rw [List.length_append, List.length_reverse, run_length _ n hn (by rw [(gen_is n).1]; omega)]
theorem putS_fine (d : List UInt8) (n : Nat) (hn : 1 ≤ n) : fineP (putS d n) n := fun i h1 h2 => by
  have hl := run_length (genL n) n hn (by rw [(gen_is n).1]; omega) d
  unfold putS
  rw [val_append, List.length_reverse, hl, ← run_val (genL n) n hn (gen_is n) i h1 h2 d]
  unfold valB
  rw [List.reverse_reverse, add_self]
/-- Whatever checks make it fine are these. -/
theorem putS_only (d c : List UInt8) (n : Nat) (hn : 1 ≤ n) (hc : c.length = n) (hl : d.length + n ≤ 255) (hf : fineP (d ++ c) n) : d ++ c = putS d n := by
  unfold putS
  have h1 := run_length (genL n) n hn (by rw [(gen_is n).1]; omega) d
  rw [checks_unique d c (runL (genL n) n d).reverse n hc (by rw [List.length_reverse, h1]) hl hf (putS_fine d n hn)]

/-! ### Signs -/
def signsL (b : List UInt8) (n : Nat) : List UInt8 := (List.range n).map fun i => valB b (powB 2 (i + 1))
theorem signs_length (b : List UInt8) (n : Nat) : (signsL b n).length = n := by simp [signsL]
theorem signs_zero (b : List UInt8) (n : Nat) : (∀ s ∈ signsL b n, s = 0) ↔ fineP b n := by
  unfold signsL fineP
  constructor
  · intro h i h1 h2
    have := h (valB b (powB 2 (i - 1 + 1))) (List.mem_map.2 ⟨i - 1, List.mem_range.2 (by omega), rfl⟩)
    rwa [show i - 1 + 1 = i by omega] at this
  · intro h s hs
    obtain ⟨i, hi, rfl⟩ := List.mem_map.1 hs
    exact h (i + 1) (by omega) (by have := List.mem_range.1 hi; omega)
/-- Why there are no signs. -/
def errS (len : Nat) (n : Int) : Int := if n < 1 ∨ 64 < n then 1 else if (len : Int) < n then 2 else if 255 < len then 4 else 0
def fineS (b : List UInt8) (n : Int) : Bool := decide (errS b.length n = 0) && (signsL b n.toNat).all (· == 0)
theorem fineS_iff (b : List UInt8) (n : Nat) (h1 : 1 ≤ n) (h2 : n ≤ 64) (h3 : n ≤ b.length) (h4 : b.length ≤ 255) : fineS b n = true ↔ fineP b n := by
  unfold fineS errS
  rw [if_neg (by omega), if_neg (by omega), if_neg (by omega), ← signs_zero]
  simp
end Go.Proofs.YteppocjgodmpdaaGreatDoor
/-
  What the calls word.Rot and math/bits.RotateLeft32 answer: the word turned (every word, every count that an int may be).
-/
namespace Go.Proofs.YteppocjgodmpdaaGreatDoor
set_option maxRecDepth 100000
open Go.RowKit

theorem rotl_any (x : UInt32) (k : Int) (s : Nat) (w : World) (hs : s < 32) (hk : bits .and .u64 (IntKind.u64.wrap k) 31 = (s : Int)) :
    Calls Tryz.prog 288 #[.int .u32 (x.toNat : Int), .int .i64 k] w fun e w' => e = .returned (.int .u32 ((rotR x (32 - s)).toNat : Int)) ∧ w = w' := by
  have H := Lib.hid (shifts_rot x s hs)
  have hx := u32_lt x
  go_enter Tryz.func288, Tryz.ntmps288
  go_wp2
  go_ret
  exact ⟨ret_int H.out, rfl⟩

theorem rot_any (x : UInt32) (n : Int) (w : World) :
    Calls Tryz.prog 287 #[.int .u32 (x.toNat : Int), .int .i64 n] w fun e w' => e = .returned (.int .u32 ((rotR x (n % 32).toNat).toNat : Int)) ∧ w = w' := by
  have H := Lib.hid (and31 n)
  have H2 : Hid (rotR x (32 - ((-n) % 32).toNat) = rotR x (n % 32).toNat) := rotR_same x (by omega)
  go_enter Tryz.func287, Tryz.ntmps287
  go_wp2_with (go_at_call 288; refine (rotl_any x _ _ _ (by omega) H.out).mono ?_; rintro e w' ⟨rfl, rfl⟩)
  go_ret
  rw [H2.out]
  exact ⟨rfl, rfl⟩
end Go.Proofs.YteppocjgodmpdaaGreatDoor
/-
  What the call word.join answers: the number of the bytes, modulo 2^64.
-/
namespace Go.Proofs.YteppocjgodmpdaaGreatDoor
set_option maxRecDepth 100000
open Go.RowKit

theorem join_any (l : List UInt8) (A : Option Addr) (cap : Nat) (w : World) (hr : Rd vB w A l) (hl : l.length ≤ 9223372036854775807) :
    Calls Tryz.prog 244 #[.slice A l.length cap] w fun e w' => e = .returned (.int .u64 ((valN l % 18446744073709551616 : Nat) : Int)) ∧ w = w' := by
  go_enter Tryz.func244, Tryz.ntmps244
  go_wp2
  go_loop [3, 8] (fun v i => ∃ k : Nat, k ≤ l.length ∧ i = .int .i64 k ∧ v = .int .u64 ((valN (l.take k) % 18446744073709551616 : Nat) : Int)) (fun _ i => l.length - (intOf i).toNat)
  case atStart => exact ⟨0, Nat.zero_le _, rfl, rfl⟩
  case round =>
    obtain ⟨k, hk, rfl, rfl⟩ := hrel
    by_cases hlt : k < l.length
    · obtain ⟨b, o, rfl, hb, hcell⟩ := hr.at hlt
      have hc := hcell k hlt
      unfold vB at hc
      have hb8 : l[k].toNat < 256 := l[k].toNat_lt
      have HS : Hid _ := join_step (valN (l.take k)) l[k].toNat hb8
      have HT : Hid _ := valN_take l k hlt
      generalize l[k] = c at hc hb8 HS HT
      clear hcell hr
      go_wp2
      go_round
      case rel => exact ⟨k + 1, by omega, by go_num, by rw [HT.out, HS.out]⟩
      case measure => simp [intOf]; omega
    · have hk' : k = l.length := by omega
      have HK : Hid (l.take k = l) := by rw [hk']; exact List.take_length
      clear hk'
      go_wp2
      go_ret
      exact ⟨ret_int (by rw [HK.out]), rfl⟩

end Go.Proofs.YteppocjgodmpdaaGreatDoor
/-
  What the calls word.Get and word.FromLeast answer, for any bytes.
-/
namespace Go.Proofs.YteppocjgodmpdaaGreatDoor
set_option maxRecDepth 100000
open Go.RowKit

theorem get_any (l : List UInt8) (A : Option Addr) (cap : Nat) (w : World) (hr : Rd vB w A l) (hl : l.length ≤ 9223372036854775807) :
    Calls Tryz.prog 249 #[.slice A l.length cap] w fun e w' => e = .returned (.tuple #[.int .u64 ((getR l).1 : Int), .int .i64 (getR l).2]) ∧ w = w' := by
  by_cases h8 : l.length = 8
  · have hv := valN_lt8 l (by omega)
    have H : Hid (getR l = (valN l, 0)) := by unfold Hid getR; rw [if_pos h8]
    have HL := Lib.hid h8
    have h8' : ((l.length : Int) != 8) = false := by simp; omega
    clear h8
    go_enter Tryz.func249, Tryz.ntmps249
    go_wp2_with (go_at_call 244; refine (join_any l _ _ _ hr hl).mono ?_; rintro e w' ⟨rfl, rfl⟩)
    go_ret2
    exact ⟨ret_int2 (by rw [H.out]; show (valN l : Int) % _ = (valN l : Int); omega) (by rw [H.out]), rfl⟩
  · have H : Hid (getR l = (0, 1)) := by unfold Hid getR; rw [if_neg h8]
    have h8' : ((l.length : Int) != 8) = true := by simp; omega
    clear h8
    go_enter Tryz.func249, Tryz.ntmps249
    go_wp2_with fail
    go_ret2
    exact ⟨ret_int2 (by rw [H.out]; rfl) (by rw [H.out]), rfl⟩

theorem from_any (l : List UInt8) (A : Option Addr) (cap : Nat) (w : World) (hr : Rd vB w A l) (hl : l.length ≤ 9223372036854775807) :
    Calls Tryz.prog 208 #[.slice A l.length cap] w fun e w' => e = .returned (.tuple #[.int .u64 ((fromR l).1 : Int), .int .i64 (fromR l).2]) ∧ w = w' := by
  by_cases h8 : 8 < l.length
  · have H : Hid (fromR l = (0, 4)) := by unfold Hid fromR; rw [if_pos h8]
    go_enter Tryz.func208, Tryz.ntmps208
    go_wp2_with fail
    go_ret2
    exact ⟨ret_int2 (by rw [H.out]; rfl) (by rw [H.out]), rfl⟩
  · have hv := valN_lt8 l (by omega)
    by_cases h0 : l = []
    · subst h0
      have H : Hid (fromR [] = (0, 0)) := rfl
      have hr' : Rd vB w A [] := hr
      go_enter Tryz.func208, Tryz.ntmps208
      go_wp2_with (go_at_call 244; refine (join_any [] _ _ _ hr' (by simp)).mono ?_; rintro e w' ⟨rfl, rfl⟩)
      go_ret2
      exact ⟨ret_int2 rfl rfl, rfl⟩
    · have hpos : 0 < l.length := by
        rcases Nat.eq_zero_or_pos l.length with h | h
        · exact absurd (List.eq_nil_of_length_eq_zero h) h0
        · exact h
      obtain ⟨b, o, rfl, hb, hcell⟩ := hr.at hpos
      have hc := hcell 0 hpos
      have hh : l.head? = some l[0] := by rw [List.head?_eq_getElem?]; exact List.getElem?_eq_getElem hpos
      unfold vB at hc
      rw [Nat.add_zero] at hc
      by_cases hz : l[0] = 0
      · have H : Hid (fromR l = (0, 3)) := by unfold Hid fromR; rw [if_neg h8, hh, hz, if_pos rfl]
        have hc' : w.cell? ⟨b, o, none⟩ = some (.int .u8 0) := by rw [hc, hz]; rfl
        clear hc hcell hz hh hr
        go_enter Tryz.func208, Tryz.ntmps208
        go_wp2_with fail
        go_ret2
        exact ⟨ret_int2 (by rw [H.out]; rfl) (by rw [H.out]), rfl⟩
      · have H : Hid (fromR l = (valN l, 0)) := by unfold Hid fromR; rw [if_neg h8, hh, if_neg (by simpa using hz)]
        have hne : ((l[0].toNat : Int) == 0) = false := by
          have : l[0].toNat ≠ 0 := fun h => hz (UInt8.toNat_inj.1 h)
          simp
          omega
        generalize l[0] = c at hc hne
        clear hcell hz hh
        go_enter Tryz.func208, Tryz.ntmps208
        go_wp2_with (go_at_call 244; refine (join_any l _ _ _ hr hl).mono ?_; rintro e w' ⟨rfl, rfl⟩)
        go_ret2
        exact ⟨ret_int2 (by rw [H.out]; show (valN l : Int) % _ = (valN l : Int); omega) (by rw [H.out]), rfl⟩

end Go.Proofs.YteppocjgodmpdaaGreatDoor
/-
  What the calls word.Put and word.Least answer, for any number.
-/
namespace Go.Proofs.YteppocjgodmpdaaGreatDoor
set_option maxRecDepth 100000
open Go.RowKit

theorem vB_ofNat (n : Nat) : vB (UInt8.ofNat n) = .int .u8 ((n % 256 : Nat) : Int) := by
  unfold vB
  rw [UInt8.toNat_ofNat']
theorem put_cells (v : Nat) (hv : v < 18446744073709551616) :
    #[Value.int IntKind.u8 ((v : Int) / 72057594037927936), Value.int IntKind.u8 ((v : Int) / 281474976710656 % 256), Value.int IntKind.u8 ((v : Int) / 1099511627776 % 256), Value.int IntKind.u8 ((v : Int) / 4294967296 % 256),
      Value.int IntKind.u8 ((v : Int) / 16777216 % 256), Value.int IntKind.u8 ((v : Int) / 65536 % 256), Value.int IntKind.u8 ((v : Int) / 256 % 256), Value.int IntKind.u8 ((v : Int) % 256)] = ((putL v).map vB).toArray := by
  have e : (putL v).map vB = [vB (UInt8.ofNat (v / 72057594037927936)), vB (UInt8.ofNat (v / 281474976710656)), vB (UInt8.ofNat (v / 1099511627776)), vB (UInt8.ofNat (v / 4294967296)),
      vB (UInt8.ofNat (v / 16777216)), vB (UInt8.ofNat (v / 65536)), vB (UInt8.ofNat (v / 256)), vB (UInt8.ofNat (v / 1))] := rfl
  rw [e]
  simp only [vB_ofNat]
  have e0 : ((v : Int) / 72057594037927936) = ((v / 72057594037927936 % 256 : Nat) : Int) := by omega
  rw [e0]
  simp
theorem putL_length (v : Nat) : (putL v).length = 8 := rfl

theorem put_any (v : Nat) (hv : v < 18446744073709551616) (w : World) :
    Calls Tryz.prog 166 #[.int .u64 (v : Int)] w (RetS vB w (putL v)) := by
  have hmk : ∀ w, (Instr.makeSlice 22 (.int .i64 8) (.int .i64 8)).run Tryz.prog w = .ok (.slice (some ⟨w.heap.size, 0, none⟩) 8 8) (w.alloc (.cells #[.int .u8 0, .int .u8 0, .int .u8 0, .int .u8 0, .int .u8 0, .int .u8 0, .int .u8 0, .int .u8 0] 5)) := fun _ => by kernel_rfl
  go_enter Tryz.func166, Tryz.ntmps166
  go_wp2
  refine wp_loop_rounds 9 ?_
  iterate 9 (rw [rounds_succ]; go_wp2)
  go_ret
  exact ⟨_, 8, rfl, Nat.le_refl _, Rd.new _ _ _ _ (put_cells v hv), (Below.refl _ _).alloc (Nat.le_refl _) _⟩

def LeastRel (L : List UInt8) (w : World) (s : Value) : Prop := ∃ (M : List UInt8) (A : Option Addr) (cap : Nat), s = .slice A M.length cap ∧ M.length ≤ cap ∧ M.length ≤ 8 ∧ Rd vB w A M ∧ L.dropWhile (· == 0) = M.dropWhile (· == 0)
def sliceLen : Value → Nat | .slice _ n _ => n | _ => 0

theorem size_uint8 (w : World) : (sizeOf 5).run Tryz.prog w = .ok 1 w := by kernel_rfl

theorem least_any (v : Nat) (hv : v < 18446744073709551616) (w : World) :
    Calls Tryz.prog 118 #[.int .u64 (v : Int)] w (RetS vB w (leastL v)) := by
  have H8 : Hid (∀ L, L = putL v → L.length = 8) := by rintro L rfl; rfl
  have HL : Hid (∀ L, L = putL v → leastL v = L.dropWhile (· == 0)) := by rintro L rfl; rfl
  go_enter Tryz.func118, Tryz.ntmps118
  go_wp2_with (go_at_call 166; refine (put_any v hv _).mono ?_; rintro e w1 ⟨A, cap, rfl, hcap, hrd, hbel⟩)
  obtain ⟨L, e⟩ : ∃ L, L = putL v := ⟨_, rfl⟩
  have h8 := H8.out L e
  have HL' := Lib.hid (HL.out L e)
  rw [← e] at hcap hrd ⊢
  clear HL H8 e
  go_loop [3] (fun s => LeastRel L w1 s) (fun s => sliceLen s)
  case atStart => exact ⟨L, A, cap, rfl, hcap, by omega, hrd, rfl⟩
  case round =>
    obtain ⟨M, A1, cap1, rfl, hcap1, hm8, hrd1, hdw⟩ := hrel
    have HD := Lib.hid hdw
    clear hdw h8 hrd hcap
    cases M with
    | nil =>
      go_wp2
      go_ret
      exact ⟨A1, cap1, by rw [HL'.out, HD.out]; rfl, by rw [HL'.out, HD.out]; simp, by rw [HL'.out, HD.out]; exact Rd.nil, hbel⟩
    | cons c M =>
      obtain ⟨b, o, rfl, hb, hcell⟩ := hrd1.at (k := 0) (by simp)
      have hc := hcell 0 (by simp)
      simp only [List.getElem_cons_zero, Nat.add_zero, vB] at hc
      by_cases hz : c = 0
      · subst hz
        have hc' : w1.cell? ⟨b, o, none⟩ = some (.int .u8 0) := hc
        have hrd2 : Rd vB w1 (if cap1 = 1 then some ⟨b, o, none⟩ else some ⟨b, o + 1, none⟩) M := by
          have := hrd1.drop 1 cap1 hcap1
          simpa [Addr.add] using this
        have hM : M.length + 1 ≤ cap1 := by simpa using hcap1
        have hM8 : M.length + 1 ≤ 8 := by simpa using hm8
        have HD' : Hid (L.dropWhile (· == 0) = M.dropWhile (· == 0)) := by
          unfold Hid
          rw [HD.out, List.dropWhile_cons, if_pos (by rfl)]
        clear hc hcell hrd1 hcap1 hm8
        go_wp2
        go_round
        case rel => exact ⟨M, _, cap1 - 1, rfl, by omega, by omega, hrd2, HD'.out⟩
        case measure => simp [sliceLen]
      · have hne : ((c.toNat : Int) == 0) = false := by
          have : c.toNat ≠ 0 := fun h => hz (UInt8.toNat_inj.1 h)
          simp
          omega
        have HF : Hid (L.dropWhile (· == 0) = c :: M) := by
          unfold Hid
          rw [HD.out, List.dropWhile_cons, if_neg (by simpa using hz)]
        clear hz hcell
        go_wp2
        go_ret
        exact ⟨_, cap1, by rw [HL'.out, HF.out]; rfl, by rw [HL'.out, HF.out]; exact hcap1, by rw [HL'.out, HF.out]; exact hrd1, hbel⟩

end Go.Proofs.YteppocjgodmpdaaGreatDoor
/-
  What the calls word.Words and word.Bytes answer, for any bytes and words of up to 2^45 each.
-/
namespace Go.Proofs.YteppocjgodmpdaaGreatDoor
set_option maxRecDepth 100000
open Go.RowKit

theorem info_u32 : (Tryz.prog.info? 325).map (fun i => (i.zero, i.size, i.bytes)) = some (some (.int .u32 0), 1, 4) := by kernel_rfl
theorem info_u8 : (Tryz.prog.info? 5).map (fun i => (i.zero, i.size, i.bytes)) = some (some (.int .u8 0), 1, 1) := by kernel_rfl

def WordsRel (L : List UInt8) (w : World) (s v : Value) (wr : World) : Prop :=
  ∃ (M : List UInt8) (D : List UInt32) (A : Option Addr) (cap : Nat), s = .slice A M.length cap ∧ M.length ≤ cap ∧ Rd vB w A M ∧
    wr.ownsRow w.heap.size 325 1 v D.length (D.map vW) ∧ Below w.heap.size w wr ∧ wordsL L = D ++ wordsL M ∧ 4 * D.length + M.length ≤ L.length

theorem words_round {L M : List UInt8} {D : List UInt32} {w wr w1 : World} {A : Option Addr} {cap V : Nat} {u v : Value} {o : Obj} (hM : M.length + 4 ≤ cap) (hL : 4 * D.length + M.length + 4 ≤ L.length) (hr : Rd vB w A M)
    (ho : wr.ownsRow w.heap.size 325 1 u D.length (D.map vW)) (hb : Below w.heap.size w wr) (HV : Hid (Value.int .u32 (V : Int) = vW (UInt32.ofNat V))) (HW : Hid (wordsL L = (D ++ [UInt32.ofNat V]) ++ wordsL M))
    (ho' : w1.ownsRow w.heap.size 325 1 v (D.length + 1) (D.map vW ++ [.int .u32 (V : Int)])) (hg : (wr.alloc o).grownBy w1 u.ownBlock) : WordsRel L w (.slice A M.length (cap - 4)) v w1 :=
  ⟨M, D ++ [UInt32.ofNat V], A, cap - 4, rfl, by omega, hr, by rw [HV.out] at ho'; simpa using ho',
    (hb.alloc hb.size o).grown hg (by have := hb.size; simp; omega) (fun k hk => (ho.lt k hk).1), HW.out, by simp; omega⟩

set_option maxRecDepth 100000 in
theorem words_any (L : List UInt8) (A : Option Addr) (cap : Nat) (w : World) (hr : Rd vB w A L) (hc : L.length ≤ cap) (hl : L.length ≤ 140737488351232) :
    Calls Tryz.prog 285 #[.slice A L.length cap] w (RetS vW w (wordsL L)) := by
  obtain ⟨i0, hi, hz0, hz1, hz2⟩ := info_parts info_u32
  go_enter Tryz.func285, Tryz.ntmps285
  go_wp2_with (at_make; refine wpList_make_own _ rfl _ _ 316 rfl w.heap.size 325 i0 (.int .u32 0) 1 Tryz.underlying316 hi hz0 hz1 .i64 .i64 _ (L.length / 4) rfl rfl (by omega) (by rw [hz2]; omega) (by unfold maxLen; omega) (Nat.le_refl _) ?_; intro w0 hown0 hgrow0)
  go_loopw [0, 3] (fun s v wr => WordsRel L w s v wr) (fun s _ _ => sliceLen s)
  case atStart => exact ⟨L, [], A, cap, rfl, hc, hr, hown0, (Below.refl _ _).grown hgrow0 (Nat.le_refl _) (by simp), rfl, by simp⟩
  case round =>
    obtain ⟨M, D, A1, cap1, rfl, hcap1, hrd1, hown1, hbel1, hw1, hlen1⟩ := hrel
    have HW := Lib.hid hw1
    clear hw1 hr hc
    by_cases h4 : 4 ≤ M.length
    · match M, h4 with
      | a :: b :: c :: d :: M, h4 =>
        obtain ⟨blk, o, rfl, hb, hcell⟩ := hrd1.at (k := 0) (by simp)
        have hrj : Rd vB wr (some ⟨blk, o, none⟩) [a, b, c, d] := Rd.keep (by simpa using hrd1.take 4) hbel1
        have hM : M.length + 4 ≤ cap1 := by simpa using hcap1
        have hL4 : 4 * D.length + M.length + 4 ≤ L.length := by simpa [Nat.add_assoc] using hlen1
        have hv := valN_lt8 [a, b, c, d] (by simp)
        have hv4 := valN_lt [a, b, c, d]
        simp only [List.length_cons, List.length_nil, Nat.zero_add, Nat.reduceAdd, Nat.reducePow] at hv4
        have hrd2 : Rd vB w (if cap1 = 4 then some ⟨blk, o, none⟩ else some ⟨blk, o + 4, none⟩) M := by
          have := hrd1.drop 4 cap1 hcap1
          simpa [Addr.add] using this
        have HV : Hid ((Value.int .u32 ((valN [a, b, c, d] : Nat) : Int)) = vW (UInt32.ofNat (valN [a, b, c, d]))) := by
          unfold Hid vW
          rw [UInt32.toNat_ofNat', Nat.mod_eq_of_lt (by omega)]
        have HW' : Hid (wordsL L = (D ++ [UInt32.ofNat (valN [a, b, c, d])]) ++ wordsL M) := by
          unfold Hid
          rw [HW.out, List.append_assoc]
          rfl
        generalize hgv : valN [a, b, c, d] = V at hv hv4 HV HW'
        have HG : Hid (valN [a, b, c, d] % 18446744073709551616 = V) := by unfold Hid; rw [hgv, Nat.mod_eq_of_lt hv]
        clear hgv hcell hrd1 HW hcap1 hlen1
        go_wp2_with (first
          | (go_at_call 244; refine (join_any [a, b, c, d] _ _ _ hrj (by simp)).mono ?_; rintro e w' ⟨rfl, rfl⟩; rw [HG.out])
          | (at_builtin; refine wpList_append_own _ rfl _ _ 316 rfl w.heap.size 325 i0 (.int .u32 0) 1 4 Tryz.underlying316 hi hz0 hz1 hz2 rfl (by decide) _ _ _ rfl (hown1.alloc _) ⟨wr.heap.size, 0, none⟩ 1 1 [.int .u32 (V : Int)] rfl rfl (cell_one_new _ _ _) (by intro u hu; simp at hu; subst hu; rfl) (by unfold maxLen; omega) (by omega) (by have := hbel1.size; simp; omega) ?_; intro v' w1 hown' hgrow' _))
        go_roundw
        case rel => exact words_round hM hL4 hrd2 hown1 hbel1 HV HW' hown' hgrow'
        case measure => simp [sliceLen]; omega
      | [], h4 => simp at h4
      | [_], h4 => simp at h4
      | [_, _], h4 => simp at h4
      | [_, _, _], h4 => simp at h4
    · have HE : Hid (wordsL L = D) := by unfold Hid; rw [HW.out, wordsL_short M (by omega), List.append_nil]
      go_wp2_with fail
      go_ret
      rw [HE.out]
      exact RetS.own hown1 hbel1

def BytesRel (L : List UInt32) (w : World) (v i : Value) (wr : World) : Prop :=
  ∃ k : Nat, k ≤ L.length ∧ i = .int .i64 k ∧ wr.ownsRow w.heap.size 5 1 v (bytesL (L.take k)).length ((bytesL (L.take k)).map vB) ∧ Below w.heap.size w wr

theorem bytesL_length (l : List UInt32) : (bytesL l).length = 4 * l.length := by
  unfold bytesL
  induction l with
  | nil => rfl
  | cons a l ih => rw [List.flatMap_cons, List.length_append, ih, List.length_cons]; show 4 + _ = _; omega
theorem bytesL_take (l : List UInt32) (k : Nat) (h : k < l.length) : bytesL (l.take (k + 1)) = bytesL (l.take k) ++ bytesW l[k] := by
  unfold bytesL
  rw [List.take_succ_eq_append_getElem h, List.flatMap_append]
  simp

theorem bytesW_cells (x : UInt32) : [Value.int .u8 ((x.toNat : Int) / 16777216), Value.int .u8 ((x.toNat : Int) / 65536 % 256), Value.int .u8 ((x.toNat : Int) / 256 % 256), Value.int .u8 ((x.toNat : Int) % 256)] = (bytesW x).map vB := by
  have hx := u32_lt x
  unfold bytesW
  simp only [List.map_cons, List.map_nil, vB_ofNat]
  have e0 : ((x.toNat : Int) / 16777216) = ((x.toNat / 16777216 % 256 : Nat) : Int) := by omega
  rw [e0]
  simp
theorem bytes_round {L : List UInt32} {w wr w1 : World} {k : Nat} {x : UInt32} {u v : Value} {o : Obj} (hk : k < L.length) (ho : wr.ownsRow w.heap.size 5 1 u (bytesL (L.take k)).length ((bytesL (L.take k)).map vB))
    (hb : Below w.heap.size w wr) (HT : Hid (bytesL (L.take (k + 1)) = bytesL (L.take k) ++ bytesW x)) (hg : (wr.alloc o).grownBy w1 u.ownBlock)
    (ho' : w1.ownsRow w.heap.size 5 1 v ((bytesL (L.take k)).length + 4) ((bytesL (L.take k)).map vB ++ [Value.int .u8 ((x.toNat : Int) / 16777216), Value.int .u8 ((x.toNat : Int) / 65536 % 256), Value.int .u8 ((x.toNat : Int) / 256 % 256), Value.int .u8 ((x.toNat : Int) % 256)])) :
    BytesRel L w v (.int .i64 ((k : Int) + 1)) w1 :=
  ⟨k + 1, by omega, by go_num, by rw [HT.out]; rw [bytesW_cells, ← List.map_append] at ho'; simpa [bytesW] using ho',
    (hb.alloc hb.size o).grown hg (by have := hb.size; simp; omega) (fun k hk => (ho.lt k hk).1)⟩

theorem bytes_any (L : List UInt32) (A : Option Addr) (cap : Nat) (w : World) (hr : Rd vW w A L) (hl : L.length ≤ 35184372087808) :
    Calls Tryz.prog 269 #[.slice A L.length cap] w (RetS vB w (bytesL L)) := by
  obtain ⟨i0, hi, hz0, hz1, hz2⟩ := info_parts info_u8
  go_enter Tryz.func269, Tryz.ntmps269
  go_wp2_with (at_make; refine wpList_make_own _ rfl _ _ 22 rfl w.heap.size 5 i0 (.int .u8 0) 1 Tryz.underlying22 hi hz0 hz1 .i64 .i64 _ (4 * L.length) rfl rfl (by omega) (by rw [hz2]; omega) (by unfold maxLen; omega) (Nat.le_refl _) ?_; intro w0 hown0 hgrow0)
  go_loopw [3, 12] (fun v i wr => BytesRel L w v i wr) (fun _ i _ => L.length - (intOf i).toNat)
  case atStart => exact ⟨0, Nat.zero_le _, rfl, hown0, (Below.refl _ _).grown hgrow0 (Nat.le_refl _) (by simp)⟩
  case round =>
    obtain ⟨k, hk, rfl, hown1, hbel1⟩ := hrel
    by_cases hlt : k < L.length
    · obtain ⟨blk, o, rfl, hb, hcell⟩ := hr.at hlt
      have hc0 := hcell k hlt
      have HT := Lib.hid (bytesL_take L k hlt)
      have hc : wr.cell? ⟨blk, o + k, none⟩ = some (.int .u32 (L[k].toNat : Int)) := by rw [hbel1.cell (p := ⟨blk, o + k, none⟩) hb]; exact hc0
      have hx := u32_lt L[k]
      have hn : (bytesL (L.take k)).length ≤ 4 * k := by rw [bytesL_length, List.length_take]; omega
      generalize L[k] = x at hc hx HT
      clear hcell hr hc0
      go_wp2_with (at_builtin; refine wpList_append_own _ rfl _ _ 22 rfl w.heap.size 5 i0 (.int .u8 0) 1 1 Tryz.underlying22 hi hz0 hz1 hz2 rfl (by decide) _ _ _ rfl (hown1.alloc _) ⟨wr.heap.size, 0, none⟩ 4 4 [Value.int .u8 ((x.toNat : Int) / 16777216), Value.int .u8 ((x.toNat : Int) / 65536 % 256), Value.int .u8 ((x.toNat : Int) / 256 % 256), Value.int .u8 ((x.toNat : Int) % 256)] rfl rfl (cells_new _ _ _) (by intro u hu; simp at hu; rcases hu with rfl | rfl | rfl | rfl <;> rfl) (by unfold maxLen; omega) (by omega) (by have := hbel1.size; simp; omega) ?_; intro v' w1 hown' hgrow' _)
      go_roundw
      case rel => exact bytes_round hlt hown1 hbel1 HT hgrow' hown'
      case measure => simp [intOf]; omega
    · have HE : Hid (L.take k = L) := by unfold Hid; exact List.take_of_length_le (by omega)
      go_wp2_with fail
      go_ret
      rw [HE.out] at hown1
      exact RetS.own hown1 hbel1

end Go.Proofs.YteppocjgodmpdaaGreatDoor
/-
  What slices.Backward answers at slices of bytes: a range over a function, from the last place to the first; its contract for whatever body keeps the slice readable. Conditions: bounds on lengths, as typed.
-/
namespace Go.Proofs.YteppocjgodmpdaaGreatDoor
set_option maxRecDepth 100000
open Go.RowKit Go.Shelf
set_option linter.unusedSimpArgs false
set_option linter.unusedVariables false

attribute [local go_sem] Oper.semAt_some

/-- The places from the last one on, as far as k rounds come. -/
def backN (n k : Nat) : List Nat := (List.range k).map fun j => n - 1 - j
theorem back_succ (n k : Nat) : backN n (k + 1) = backN n k ++ [n - 1 - k] := by simp [backN, List.range_succ]
theorem back_length (n k : Nat) : (backN n k).length = k := by simp [backN]
theorem mem_back (n k i : Nat) (hk : k ≤ n) : i ∈ backN n k ↔ n - k ≤ i ∧ i < n := by
  unfold backN
  rw [List.mem_map]
  constructor
  · rintro ⟨j, hj, rfl⟩
    rw [List.mem_range] at hj
    omega
  · rintro ⟨h1, h2⟩
    exact ⟨n - 1 - i, by rw [List.mem_range]; omega, by omega⟩

/-- What comes to a round: a place, and the byte there. -/
abbrev Bk (n : Nat) (V : Nat → UInt8 → Prop) := { x : Nat × UInt8 // x.1 < n ∧ V x.1 x.2 }
def Bk.at {n : Nat} {V : Nat → UInt8 → Prop} (x : Bk n V) : Nat := x.1.1
def Bk.val {n : Nat} {V : Nat → UInt8 → Prop} (x : Bk n V) : UInt8 := x.1.2
def Bk.enc {n : Nat} {V : Nat → UInt8 → Prop} (x : Bk n V) : Array Value := #[.int .i64 (x.at : Int), .int .u8 (x.val.toNat : Int)]
theorem Bk.lt {n : Nat} {V : Nat → UInt8 → Prop} (x : Bk n V) : x.at < n := x.2.1
theorem Bk.is {n : Nat} {V : Nat → UInt8 → Prop} (x : Bk n V) : V x.at x.val := x.2.2
def backS {n : Nat} {V : Nat → UInt8 → Prop} (xs : List (Bk n V)) : Prop := xs.map Bk.at = backN n n
def backP {n : Nat} {V : Nat → UInt8 → Prop} (xs : List (Bk n V)) : Prop := ∃ k, k ≤ n ∧ xs.map Bk.at = backN n k

theorem backward_any (A : Option Addr) (n c : Nat) (w : World) :
    Calls Tryz.prog 189 #[.slice A n c] w fun e w' => e = .returned (.func (.func 239) #[] #[.pointer (some ⟨w.heap.size, 0, none⟩)]) ∧ w' = w.alloc (.cells #[.slice A n c] 22) := by
  go_enter Tryz.func189, Tryz.ntmps189
  go_wp2_with fail
  go_ret
  exact ⟨rfl, rfl⟩

set_option maxHeartbeats 2000000 in
theorem back1_in (F : Fence) (n : Nat) (h7 : F.fn 239) (hro : F.round = none) (hn : 1 ≤ n) (l Bs len cap : Nat) (A : Option Addr) (V : Nat → UInt8 → Prop) (Kp : World → World → Prop) (hlen : len ≤ 140737488351232) (J Jx : List (Bk len V) → World → Prop)
    (hY : ∀ pre x W, J pre W → pre.length < len → YieldAt F (n - 1) Tryz.prog l (Bk.enc x) W fun e W' => (e = .returned (.bool true) ∧ J (pre ++ [x]) W' ∧ Kp W W') ∨ (e = .returned (.bool false) ∧ Jx (pre ++ [x]) W'))
    (W : World) (hKr : Kp W W) (hKt : ∀ X Y, Kp W X → Kp X Y → Kp W Y) (hread : ∀ W', Kp W W' → W'.cell? ⟨Bs, 0, none⟩ = some (.slice A len cap) ∧ ∃ p : List UInt8, p.length = len ∧ Rd vB W' A p ∧ ∀ j, j < len → V j (co p j)) (h0 : J [] W) :
    CallsIn F n Tryz.prog 239 #[.func (.yield l) #[] #[], .pointer (some ⟨Bs, 0, none⟩)] W fun e W' => (∃ v, e = .returned v) ∧ ((∃ xs, backS xs ∧ J xs W') ∨ (∃ pre, backP pre ∧ Jx pre W')) := by
  have hc0 := (hread W hKr).1
  refine callsIn_of_wp Tryz.func239 rfl h7 ?_ hro
  simp only [Tryz.ntmps239, List.size_toArray, List.length_cons, List.length_nil, Nat.reduceAdd, Nat.reduceSub, Array.replicate_succ, Array.replicate_zero, List.push_toArray, List.append_toArray, List.nil_append, List.cons_append]
  gi_wp2
  gi_loopw [3] (fun i wr => ∃ m : Nat, m ≤ len ∧ i = .int .i64 ((m : Int) - 1) ∧ (∃ pre : List (Bk len V), pre.length = len - m ∧ pre.map Bk.at = backN len (len - m) ∧ J pre wr) ∧ Kp W wr)
    (fun i _ => (intOf i + 1).toNat)
  case atStart => exact ⟨len, Nat.le_refl _, rfl, ⟨[], by simp, by rw [Nat.sub_self]; rfl, h0⟩, hKr⟩
  case round =>
    obtain ⟨m, hm, rfl, ⟨pre, hpl, hpm, hJs⟩, hK⟩ := hrel
    obtain ⟨hcb, p, hp, hrd, hV⟩ := hread wr hK
    by_cases h0 : m = 0
    · subst h0
      rw [Nat.sub_zero] at hpm
      have HPM := Lib.hid hpm
      clear hpm hpl hV
      gi_wp2
      go_end0
      exact ⟨⟨_, rfl⟩, .inl ⟨_, HPM.out, hJs⟩⟩
    · obtain ⟨q, rfl⟩ : ∃ q, m = q + 1 := ⟨m - 1, by omega⟩
      have hq : q < p.length := by omega
      obtain ⟨b, o, rfl, hb, hcell⟩ := hrd.at hq
      have hc1 := hcell q hq
      have hv := hV q (by omega)
      rw [co_lt p q hq] at hv
      unfold vB at hc1
      generalize p[q] = y at hc1 hv
      obtain ⟨fn, tmps, assign, body, hy, hR⟩ := hY pre ⟨(q, y), by omega, hv⟩ wr hJs (by omega)
      unfold Bk.enc Bk.at Bk.val at hy
      dsimp only at hy
      have HPM : Hid ((pre ++ [(⟨(q, y), by omega, hv⟩ : Bk len V)]).map Bk.at = backN len (len - q)) := by
        unfold Hid
        rw [show len - q = (len - (q + 1)) + 1 by omega, back_succ, List.map_append, hpm, List.map_cons, List.map_nil]
        unfold Bk.at
        dsimp only
        rw [show len - 1 - (len - (q + 1)) = q by omega]
      have HPL : Hid ((pre ++ [(⟨(q, y), by omega, hv⟩ : Bk len V)]).length = len - q) := by
        unfold Hid
        rw [List.length_append, hpl, List.length_singleton]
        omega
      have e1 : ((q + 1 : Nat) : Int) - 1 = (q : Int) := by omega
      rw [e1]
      have i0 : (0 : Int) ≤ (q : Int) := by omega
      have i1 : (q : Int) < (len : Int) := by omega
      clear hpm hpl hV hcell hrd e1
      gi_wp2
      refine hR.mono ?_
      rintro e W3 (⟨rfl, hJ3, hk3⟩ | ⟨rfl, hJx3⟩)
      · gi_wp2
        go_roundw
        case rel => exact ⟨q, by omega, by go_num, ⟨_, HPL.out, HPM.out, hJ3⟩, hKt _ _ hK hk3⟩
        case measure => simp [intOf] <;> omega
      · gi_wp2
        refine bodyPost_ret (results_none rfl _ _ _) rfl ?_
        exact ⟨⟨_, rfl⟩, .inr ⟨_, ⟨len - q, by omega, HPM.out⟩, hJx3⟩⟩

/-- What 'slices.Backward(s)' hands back, as a loop's iterator. -/
theorem back_stops (F : Fence) (n : Nat) (h7 : F.fn 239) (hro : F.round = none) (hn : 1 ≤ n) (Bs len cap : Nat) (A : Option Addr) (V : Nat → UInt8 → Prop) (Kp : World → World → Prop) (hlen : len ≤ 140737488351232) (w : World)
    (hKr : ∀ W, Kp W W) (hKt : ∀ X Y Z, Kp X Y → Kp Y Z → Kp X Z) (hread : ∀ W, Below w.heap.size w W → ∀ W', Kp W W' → W'.cell? ⟨Bs, 0, none⟩ = some (.slice A len cap) ∧ ∃ p : List UInt8, p.length = len ∧ Rd vB W' A p ∧ ∀ j, j < len → V j (co p j)) :
    SeqStopsK F n Tryz.prog 239 #[.pointer (some ⟨Bs, 0, none⟩)] (Bk.enc (n := len) (V := V)) Kp backS backP len w := fun l J Jx W hW _ _ hY h0 =>
  back1_in F n h7 hro hn l Bs len cap A V Kp hlen J Jx hY W (hKr W) (fun X Y h k => hKt _ _ _ h k) (hread W hW) h0
end Go.Proofs.YteppocjgodmpdaaGreatDoor
