/-
  No cell of these rows narrows 'for every input' (looked for: loops, veiled, ifaces, maps, wideKeys, modest, calm, conditions, laid).
  DERIVED. THE GIVEN ROWS OF THIS SEAT. 3 by the template 'for every input the law returns true; each argument reads behind the call as it read before'; 0 by the template 'total and deterministic' (their statements: YtojegpoilildaaaTotals.lean).
  GIVEN WITH THE SEED: the statements are not yours to turn. If you find one false, say at which input.
  Laid BY PROGRAM, IN A SANDBOX (cutbox-rows.mjs): the forced cells as the released guide's own fill.sh prints them over the translation 3d1eff9d0a87269d… (all of the seat's roots in one cut). By AI agents, Wed Nov 11 2026. No macro, syntax, notation, axiom, sorry.
-/
import Derived.Test.YtojegpoilildaaaChecked
import GoSem.Claim
import GoSem.ClaimJoined
import GoSem.ClaimMapViews
import Derived.JoinedTies
import Derived.KernelRfl
namespace Go.Proofs.Ytojegpoilildaaa
/- THE CELL 'sum', in the pinned program and in every row, IS THE sha256 OF THE DUMP (.gsa) THAT YtojegpoilildaaaProg.lean LOADS. Nothing in Lean hashes anything: it is a label: what it is worth is what the hold of that sum in a sandbox is worth. -/
noncomputable def Try.pinned : Pinned := { name := "ytojegpoilildaaa", sum := "3d1eff9d0a87269dc4f40f731651bee18d2d579abac12bbc16599457977fa0f0", checked := Try.checked }
namespace Rows
def none {H : Type} : Left H := { results := [], args := [] }

/-- 'wristbandlaw08.PolyRight': WHATEVER THE INPUT: true; the input reads as it did. -/
def polyRightSpec : ChangeSpec := { name := "polyRight", fn := fun _ => fun
  | [d1, d2, d3] => { results := [.lit (.bool true)], args := [d1, d2, d3] }
  | _ => none }
def polyRightRow : OpenClaim := { program := "ytojegpoilildaaa", sum := "3d1eff9d0a87269dc4f40f731651bee18d2d579abac12bbc16599457977fa0f0", func := "wristband/wristbandlaw08.PolyRight", spec := "polyRight", unfollowed := true, recurses := true, apart := false }
def PolyRightSaid : Prop := polyRightRow.holds Try.pinned (OpenSpec.ofChange polyRightSpec)

/-- ITS FALSE NEIGHBOUR: 'it returns false'. Refute it at one input. -/
def polyRightWrong : ChangeSpec := { name := "polyRight", fn := fun _ => fun
  | [d1, d2, d3] => { results := [.lit (.bool false)], args := [d1, d2, d3] }
  | _ => none }
def PolyRightWrongFalsely : Prop := polyRightRow.holds Try.pinned (OpenSpec.ofChange polyRightWrong)

/-- 'wristbandlaw08.PolyQuo': WHATEVER THE INPUT: true; the input reads as it did. -/
def polyQuoSpec : ChangeSpec := { name := "polyQuo", fn := fun _ => fun
  | [d1, d2] => { results := [.lit (.bool true)], args := [d1, d2] }
  | _ => none }
def polyQuoRow : OpenClaim := { program := "ytojegpoilildaaa", sum := "3d1eff9d0a87269dc4f40f731651bee18d2d579abac12bbc16599457977fa0f0", func := "wristband/wristbandlaw08.PolyQuo", spec := "polyQuo", unfollowed := true, recurses := true, apart := false }
def PolyQuoSaid : Prop := polyQuoRow.holds Try.pinned (OpenSpec.ofChange polyQuoSpec)

/-- ITS FALSE NEIGHBOUR: 'it returns false'. Refute it at one input. -/
def polyQuoWrong : ChangeSpec := { name := "polyQuo", fn := fun _ => fun
  | [d1, d2] => { results := [.lit (.bool false)], args := [d1, d2] }
  | _ => none }
def PolyQuoWrongFalsely : Prop := polyQuoRow.holds Try.pinned (OpenSpec.ofChange polyQuoWrong)

/-- 'wristbandlaw08.PolyValues': WHATEVER THE INPUT: true; the input reads as it did. -/
def polyValuesSpec : ChangeSpec := { name := "polyValues", fn := fun _ => fun
  | [d1, d2, d3, d4] => { results := [.lit (.bool true)], args := [d1, d2, d3, d4] }
  | _ => none }
def polyValuesRow : OpenClaim := { program := "ytojegpoilildaaa", sum := "3d1eff9d0a87269dc4f40f731651bee18d2d579abac12bbc16599457977fa0f0", func := "wristband/wristbandlaw08.PolyValues", spec := "polyValues", unfollowed := true, recurses := true, apart := false }
def PolyValuesSaid : Prop := polyValuesRow.holds Try.pinned (OpenSpec.ofChange polyValuesSpec)

/-- ITS FALSE NEIGHBOUR: 'it returns false'. Refute it at one input. -/
def polyValuesWrong : ChangeSpec := { name := "polyValues", fn := fun _ => fun
  | [d1, d2, d3, d4] => { results := [.lit (.bool false)], args := [d1, d2, d3, d4] }
  | _ => none }
def PolyValuesWrongFalsely : Prop := polyValuesRow.holds Try.pinned (OpenSpec.ofChange polyValuesWrong)

/- THE SECOND FORM. 'bulk': how many values and letters a reading holds, each counted each time it is reached (what is shared counts as often as it is met; a slice's spare places count too). A statement '..UptoSaid' is the law's where the arguments, and the package variables that the reading takes, are together of bulk at most 1048576: NARROWER than '..Said'. Prove '..Said' where nothing that the law and all that it calls make is longer than what came in: it says more and counts as full. Else prove '..UptoSaid'. A law counts once. -/
mutual
def uptoBulk {H : Type} : DataW H → Nat
  | .lit (.string bytes) => bytes.length + 1
  | .lit _ => 1
  | .nil => 1
  | .ptr d => uptoBulk d + 1
  | .slice elems spare => uptoBulkAll elems + uptoBulkAll spare + 1
  | .agg parts => uptoBulkAll parts + 1
  | .iface _ d => uptoBulk d + 1
  | .map entries => uptoBulkEntries entries + 1
  | .held _ => 1
def uptoBulkAll {H : Type} : List (DataW H) → Nat
  | [] => 0
  | d :: r => uptoBulk d + uptoBulkAll r
def uptoBulkEntries {H : Type} : List (Lit × DataW H) → Nat
  | [] => 0
  | x :: r => uptoBulkEntry x + uptoBulkEntries r
def uptoBulkEntry {H : Type} : Lit × DataW H → Nat
  | (.string bytes, d) => bytes.length + uptoBulk d + 1
  | (_, d) => uptoBulk d + 1
 end
def uptoSmall : (H : Type) → List (DataW H) → Bool := fun _ ds => decide (uptoBulkAll ds ≤ 1048576)
def OpenSpec.upto (s : _root_.Go.ChangeSpec) : _root_.Go.OpenSpec := { _root_.Go.OpenSpec.ofChange s with cond := some uptoSmall }

/-- 'wristbandlaw08.PolyRight', WHERE WHAT IT READS IS OF BULK AT MOST 1048576: true; the input reads as it did. -/
def polyRightUptoRow : OpenClaim := { program := "ytojegpoilildaaa", sum := "3d1eff9d0a87269dc4f40f731651bee18d2d579abac12bbc16599457977fa0f0", func := "wristband/wristbandlaw08.PolyRight", spec := "polyRight", unfollowed := true, recurses := true, apart := false, narrowed := true }
def PolyRightUptoSaid : Prop := polyRightUptoRow.holds Try.pinned (OpenSpec.upto polyRightSpec)

/-- 'wristbandlaw08.PolyQuo', WHERE WHAT IT READS IS OF BULK AT MOST 1048576: true; the input reads as it did. -/
def polyQuoUptoRow : OpenClaim := { program := "ytojegpoilildaaa", sum := "3d1eff9d0a87269dc4f40f731651bee18d2d579abac12bbc16599457977fa0f0", func := "wristband/wristbandlaw08.PolyQuo", spec := "polyQuo", unfollowed := true, recurses := true, apart := false, narrowed := true }
def PolyQuoUptoSaid : Prop := polyQuoUptoRow.holds Try.pinned (OpenSpec.upto polyQuoSpec)

/-- 'wristbandlaw08.PolyValues', WHERE WHAT IT READS IS OF BULK AT MOST 1048576: true; the input reads as it did. -/
def polyValuesUptoRow : OpenClaim := { program := "ytojegpoilildaaa", sum := "3d1eff9d0a87269dc4f40f731651bee18d2d579abac12bbc16599457977fa0f0", func := "wristband/wristbandlaw08.PolyValues", spec := "polyValues", unfollowed := true, recurses := true, apart := false, narrowed := true }
def PolyValuesUptoSaid : Prop := polyValuesUptoRow.holds Try.pinned (OpenSpec.upto polyValuesSpec)

end Rows
end Go.Proofs.Ytojegpoilildaaa
