/-
  A literal's bytes, converted to their own type: a row with a frozen mark reads as the bytes did (no program is named here). No conditions but those typed.
-/
import Derived.Test.YtobeaoooaagdkaaMem
namespace Go.Proofs.Ytobeaoooaagdkaa
set_option maxRecDepth 100000
open Go.RowKit

theorem Rd.new_fr {α : Type} {f : α → Value} (w : World) (g : Nat) (hg : g = w.heap.size) (l : List α) (cs : Array Value) (e : TypeId) (fr : Nat × Nat) (h : cs = (l.map f).toArray) : Rd f (w.alloc (.cells cs e fr)) (some ⟨g, 0, none⟩) l := fun _ => by
  subst hg
  refine ⟨w.heap.size, 0, rfl, fun i hi => ?_⟩
  subst h
  rw [cell_of_row _ w.heap.size (0 + i) _ e fr (heap_alloc_new w _)]
  simp [hi]
end Go.Proofs.Ytobeaoooaagdkaa
