/-
  No cell of these rows narrows 'for every input' (looked for: loops, veiled, ifaces, maps, wideKeys, modest, calm, conditions, laid).
  DERIVED. THE GIVEN ROWS OF THIS SEAT. 3 by the template 'for every input the law returns true; each argument reads behind the call as it read before'; 0 by the template 'total and deterministic' (their statements: YtaknikbnajkccaaTotals.lean).
  GIVEN WITH THE SEED: the statements are not yours to turn. If you find one false, say at which input.
  Laid BY PROGRAM, IN A SANDBOX (cutbox-rows.mjs): the forced cells as the released guide's own fill.sh prints them over the translation 2b79a4192f3fcb40… (all of the seat's roots in one cut). By AI agents, Wed Nov 11 2026. No macro, syntax, notation, axiom, sorry.
-/
import Derived.Test.YtaknikbnajkccaaChecked
import GoSem.Claim
import GoSem.ClaimJoined
import GoSem.ClaimMapViews
import Derived.JoinedTies
import Derived.KernelRfl
namespace Go.Proofs.Ytaknikbnajkccaa
/- THE CELL 'sum', in the pinned program and in every row, IS THE sha256 OF THE DUMP (.gsa) THAT YtaknikbnajkccaaProg.lean LOADS. Nothing in Lean hashes anything: it is a label: what it is worth is what the hold of that sum in a sandbox is worth. -/
noncomputable def Try.pinned : Pinned := { name := "ytaknikbnajkccaa", sum := "2b79a4192f3fcb409f98d8ab98abb988902b80c7eb97f8c747e0ad4c35dca40e", checked := Try.checked }
namespace Rows
def none {H : Type} : Left H := { results := [], args := [] }

/-- 'wristbandlaw11.StuffRight': WHATEVER THE INPUT: true; the input reads as it did. -/
def stuffRightSpec : ChangeSpec := { name := "stuffRight", fn := fun _ => fun
  | [d1, d2] => { results := [.lit (.bool true)], args := [d1, d2] }
  | _ => none }
def stuffRightRow : OpenClaim := { program := "ytaknikbnajkccaa", sum := "2b79a4192f3fcb409f98d8ab98abb988902b80c7eb97f8c747e0ad4c35dca40e", func := "wristband/wristbandlaw11.StuffRight", spec := "stuffRight", apart := false }
def StuffRightSaid : Prop := stuffRightRow.holds Try.pinned (OpenSpec.ofChange stuffRightSpec)

/-- ITS FALSE NEIGHBOUR: 'it returns false'. Refute it at one input. -/
def stuffRightWrong : ChangeSpec := { name := "stuffRight", fn := fun _ => fun
  | [d1, d2] => { results := [.lit (.bool false)], args := [d1, d2] }
  | _ => none }
def StuffRightWrongFalsely : Prop := stuffRightRow.holds Try.pinned (OpenSpec.ofChange stuffRightWrong)

/-- 'wristbandlaw11.StuffBack': WHATEVER THE INPUT: true; the input reads as it did. -/
def stuffBackSpec : ChangeSpec := { name := "stuffBack", fn := fun _ => fun
  | [d1, d2] => { results := [.lit (.bool true)], args := [d1, d2] }
  | _ => none }
def stuffBackRow : OpenClaim := { program := "ytaknikbnajkccaa", sum := "2b79a4192f3fcb409f98d8ab98abb988902b80c7eb97f8c747e0ad4c35dca40e", func := "wristband/wristbandlaw11.StuffBack", spec := "stuffBack", apart := false }
def StuffBackSaid : Prop := stuffBackRow.holds Try.pinned (OpenSpec.ofChange stuffBackSpec)

/-- ITS FALSE NEIGHBOUR: 'it returns false'. Refute it at one input. -/
def stuffBackWrong : ChangeSpec := { name := "stuffBack", fn := fun _ => fun
  | [d1, d2] => { results := [.lit (.bool false)], args := [d1, d2] }
  | _ => none }
def StuffBackWrongFalsely : Prop := stuffBackRow.holds Try.pinned (OpenSpec.ofChange stuffBackWrong)

/-- 'wristbandlaw11.StuffRows': WHATEVER THE INPUT: true; the input reads as it did. -/
def stuffRowsSpec : ChangeSpec := { name := "stuffRows", fn := fun _ => fun
  | [d] => { results := [.lit (.bool true)], args := [d] }
  | _ => none }
def stuffRowsRow : OpenClaim := { program := "ytaknikbnajkccaa", sum := "2b79a4192f3fcb409f98d8ab98abb988902b80c7eb97f8c747e0ad4c35dca40e", func := "wristband/wristbandlaw11.StuffRows", spec := "stuffRows", apart := false }
def StuffRowsSaid : Prop := stuffRowsRow.holds Try.pinned (OpenSpec.ofChange stuffRowsSpec)

/-- ITS FALSE NEIGHBOUR: 'it returns false'. Refute it at one input. -/
def stuffRowsWrong : ChangeSpec := { name := "stuffRows", fn := fun _ => fun
  | [d] => { results := [.lit (.bool false)], args := [d] }
  | _ => none }
def StuffRowsWrongFalsely : Prop := stuffRowsRow.holds Try.pinned (OpenSpec.ofChange stuffRowsWrong)

/- THE SECOND FORM. 'bulk': how many values and letters a reading holds, each counted each time it is reached (what is shared counts as often as it is met; a slice's spare places count too). A statement '..UptoSaid' is the law's where the arguments, and the package variables that the reading takes, are together of bulk at most 1048576: NARROWER than '..Said'. Prove '..Said' where nothing that the law and all that it calls make is longer than what came in: it says more and counts as full. Else prove '..UptoSaid'. A law counts once. -/
mutual
def uptoBulk {H : Type} : DataW H → Nat
  | .lit (.string bytes) => bytes.length + 1
  | .lit _ => 1
  | .nil => 1
  | .ptr d => uptoBulk d + 1
  | .slice elems spare => uptoBulkAll elems + uptoBulkAll spare + 1
  | .agg parts => uptoBulkAll parts + 1
  | .iface _ d => uptoBulk d + 1
  | .map entries => uptoBulkEntries entries + 1
  | .held _ => 1
def uptoBulkAll {H : Type} : List (DataW H) → Nat
  | [] => 0
  | d :: r => uptoBulk d + uptoBulkAll r
def uptoBulkEntries {H : Type} : List (Lit × DataW H) → Nat
  | [] => 0
  | x :: r => uptoBulkEntry x + uptoBulkEntries r
def uptoBulkEntry {H : Type} : Lit × DataW H → Nat
  | (.string bytes, d) => bytes.length + uptoBulk d + 1
  | (_, d) => uptoBulk d + 1
 end
def uptoSmall : (H : Type) → List (DataW H) → Bool := fun _ ds => decide (uptoBulkAll ds ≤ 1048576)
def OpenSpec.upto (s : _root_.Go.ChangeSpec) : _root_.Go.OpenSpec := { _root_.Go.OpenSpec.ofChange s with cond := some uptoSmall }

/-- 'wristbandlaw11.StuffRight', WHERE WHAT IT READS IS OF BULK AT MOST 1048576: true; the input reads as it did. -/
def stuffRightUptoRow : OpenClaim := { program := "ytaknikbnajkccaa", sum := "2b79a4192f3fcb409f98d8ab98abb988902b80c7eb97f8c747e0ad4c35dca40e", func := "wristband/wristbandlaw11.StuffRight", spec := "stuffRight", apart := false, narrowed := true }
def StuffRightUptoSaid : Prop := stuffRightUptoRow.holds Try.pinned (OpenSpec.upto stuffRightSpec)

/-- 'wristbandlaw11.StuffBack', WHERE WHAT IT READS IS OF BULK AT MOST 1048576: true; the input reads as it did. -/
def stuffBackUptoRow : OpenClaim := { program := "ytaknikbnajkccaa", sum := "2b79a4192f3fcb409f98d8ab98abb988902b80c7eb97f8c747e0ad4c35dca40e", func := "wristband/wristbandlaw11.StuffBack", spec := "stuffBack", apart := false, narrowed := true }
def StuffBackUptoSaid : Prop := stuffBackUptoRow.holds Try.pinned (OpenSpec.upto stuffBackSpec)

/-- 'wristbandlaw11.StuffRows', WHERE WHAT IT READS IS OF BULK AT MOST 1048576: true; the input reads as it did. -/
def stuffRowsUptoRow : OpenClaim := { program := "ytaknikbnajkccaa", sum := "2b79a4192f3fcb409f98d8ab98abb988902b80c7eb97f8c747e0ad4c35dca40e", func := "wristband/wristbandlaw11.StuffRows", spec := "stuffRows", apart := false, narrowed := true }
def StuffRowsUptoSaid : Prop := stuffRowsUptoRow.holds Try.pinned (OpenSpec.upto stuffRowsSpec)

end Rows
end Go.Proofs.Ytaknikbnajkccaa
