/-
  No cell of these rows narrows 'for every input' (looked for: loops, veiled, ifaces, maps, wideKeys, modest, calm, conditions, laid).
  DERIVED. THE GIVEN ROWS OF THIS SEAT. 3 by the template 'for every input the law returns true; each argument reads behind the call as it read before'; 0 by the template 'total and deterministic' (their statements: YtfpoedapeoimbaaTotals.lean).
  GIVEN WITH THE SEED: the statements are not yours to turn. If you find one false, say at which input.
  Laid BY PROGRAM, IN A SANDBOX (cutbox-rows.mjs): the forced cells as the released guide's own fill.sh prints them over the translation 41242d91a53d3f88… (all of the seat's roots in one cut). By AI agents, Wed Nov 11 2026. No macro, syntax, notation, axiom, sorry.
-/
import Derived.Test.YtfpoedapeoimbaaChecked
import GoSem.Claim
import GoSem.ClaimJoined
import GoSem.ClaimMapViews
import Derived.JoinedTies
import Derived.KernelRfl
namespace Go.Proofs.Ytfpoedapeoimbaa
/- THE CELL 'sum', in the pinned program and in every row, IS THE sha256 OF THE DUMP (.gsa) THAT YtfpoedapeoimbaaProg.lean LOADS. Nothing in Lean hashes anything: it is a label: what it is worth is what the hold of that sum in a sandbox is worth. -/
noncomputable def Try.pinned : Pinned := { name := "ytfpoedapeoimbaa", sum := "41242d91a53d3f883bdd599671e69f637aa256083b0dc597f928d5cc5f4b55df", checked := Try.checked }
namespace Rows
def none {H : Type} : Left H := { results := [], args := [] }

/-- 'wristbandlaw09.SolomonRight': WHATEVER THE INPUT: true; the input reads as it did. -/
def solomonRightSpec : ChangeSpec := { name := "solomonRight", fn := fun _ => fun
  | [d1, d2] => { results := [.lit (.bool true)], args := [d1, d2] }
  | _ => none }
def solomonRightRow : OpenClaim := { program := "ytfpoedapeoimbaa", sum := "41242d91a53d3f883bdd599671e69f637aa256083b0dc597f928d5cc5f4b55df", func := "wristband/wristbandlaw09.SolomonRight", spec := "solomonRight", unfollowed := true, recurses := true, apart := false }
def SolomonRightSaid : Prop := solomonRightRow.holds Try.pinned (OpenSpec.ofChange solomonRightSpec)

/-- ITS FALSE NEIGHBOUR: 'it returns false'. Refute it at one input. -/
def solomonRightWrong : ChangeSpec := { name := "solomonRight", fn := fun _ => fun
  | [d1, d2] => { results := [.lit (.bool false)], args := [d1, d2] }
  | _ => none }
def SolomonRightWrongFalsely : Prop := solomonRightRow.holds Try.pinned (OpenSpec.ofChange solomonRightWrong)

/-- 'wristbandlaw09.SolomonFine': WHATEVER THE INPUT: true; the input reads as it did. -/
def solomonFineSpec : ChangeSpec := { name := "solomonFine", fn := fun _ => fun
  | [d1, d2, d3, d4] => { results := [.lit (.bool true)], args := [d1, d2, d3, d4] }
  | _ => none }
def solomonFineRow : OpenClaim := { program := "ytfpoedapeoimbaa", sum := "41242d91a53d3f883bdd599671e69f637aa256083b0dc597f928d5cc5f4b55df", func := "wristband/wristbandlaw09.SolomonFine", spec := "solomonFine", unfollowed := true, recurses := true, apart := false }
def SolomonFineSaid : Prop := solomonFineRow.holds Try.pinned (OpenSpec.ofChange solomonFineSpec)

/-- ITS FALSE NEIGHBOUR: 'it returns false'. Refute it at one input. -/
def solomonFineWrong : ChangeSpec := { name := "solomonFine", fn := fun _ => fun
  | [d1, d2, d3, d4] => { results := [.lit (.bool false)], args := [d1, d2, d3, d4] }
  | _ => none }
def SolomonFineWrongFalsely : Prop := solomonFineRow.holds Try.pinned (OpenSpec.ofChange solomonFineWrong)

/-- 'wristbandlaw09.SolomonSums': WHATEVER THE INPUT: true; the input reads as it did. -/
def solomonSumsSpec : ChangeSpec := { name := "solomonSums", fn := fun _ => fun
  | [d1, d2, d3, d4, d5] => { results := [.lit (.bool true)], args := [d1, d2, d3, d4, d5] }
  | _ => none }
def solomonSumsRow : OpenClaim := { program := "ytfpoedapeoimbaa", sum := "41242d91a53d3f883bdd599671e69f637aa256083b0dc597f928d5cc5f4b55df", func := "wristband/wristbandlaw09.SolomonSums", spec := "solomonSums", unfollowed := true, recurses := true, apart := false }
def SolomonSumsSaid : Prop := solomonSumsRow.holds Try.pinned (OpenSpec.ofChange solomonSumsSpec)

/-- ITS FALSE NEIGHBOUR: 'it returns false'. Refute it at one input. -/
def solomonSumsWrong : ChangeSpec := { name := "solomonSums", fn := fun _ => fun
  | [d1, d2, d3, d4, d5] => { results := [.lit (.bool false)], args := [d1, d2, d3, d4, d5] }
  | _ => none }
def SolomonSumsWrongFalsely : Prop := solomonSumsRow.holds Try.pinned (OpenSpec.ofChange solomonSumsWrong)

/- THE SECOND FORM. 'bulk': how many values and letters a reading holds, each counted each time it is reached (what is shared counts as often as it is met; a slice's spare places count too). A statement '..UptoSaid' is the law's where the arguments, and the package variables that the reading takes, are together of bulk at most 1048576: NARROWER than '..Said'. Prove '..Said' where nothing that the law and all that it calls make is longer than what came in: it says more and counts as full. Else prove '..UptoSaid'. A law counts once. -/
mutual
def uptoBulk {H : Type} : DataW H → Nat
  | .lit (.string bytes) => bytes.length + 1
  | .lit _ => 1
  | .nil => 1
  | .ptr d => uptoBulk d + 1
  | .slice elems spare => uptoBulkAll elems + uptoBulkAll spare + 1
  | .agg parts => uptoBulkAll parts + 1
  | .iface _ d => uptoBulk d + 1
  | .map entries => uptoBulkEntries entries + 1
  | .held _ => 1
def uptoBulkAll {H : Type} : List (DataW H) → Nat
  | [] => 0
  | d :: r => uptoBulk d + uptoBulkAll r
def uptoBulkEntries {H : Type} : List (Lit × DataW H) → Nat
  | [] => 0
  | x :: r => uptoBulkEntry x + uptoBulkEntries r
def uptoBulkEntry {H : Type} : Lit × DataW H → Nat
  | (.string bytes, d) => bytes.length + uptoBulk d + 1
  | (_, d) => uptoBulk d + 1
 end
def uptoSmall : (H : Type) → List (DataW H) → Bool := fun _ ds => decide (uptoBulkAll ds ≤ 1048576)
def OpenSpec.upto (s : _root_.Go.ChangeSpec) : _root_.Go.OpenSpec := { _root_.Go.OpenSpec.ofChange s with cond := some uptoSmall }

/-- 'wristbandlaw09.SolomonRight', WHERE WHAT IT READS IS OF BULK AT MOST 1048576: true; the input reads as it did. -/
def solomonRightUptoRow : OpenClaim := { program := "ytfpoedapeoimbaa", sum := "41242d91a53d3f883bdd599671e69f637aa256083b0dc597f928d5cc5f4b55df", func := "wristband/wristbandlaw09.SolomonRight", spec := "solomonRight", unfollowed := true, recurses := true, apart := false, narrowed := true }
def SolomonRightUptoSaid : Prop := solomonRightUptoRow.holds Try.pinned (OpenSpec.upto solomonRightSpec)

/-- 'wristbandlaw09.SolomonFine', WHERE WHAT IT READS IS OF BULK AT MOST 1048576: true; the input reads as it did. -/
def solomonFineUptoRow : OpenClaim := { program := "ytfpoedapeoimbaa", sum := "41242d91a53d3f883bdd599671e69f637aa256083b0dc597f928d5cc5f4b55df", func := "wristband/wristbandlaw09.SolomonFine", spec := "solomonFine", unfollowed := true, recurses := true, apart := false, narrowed := true }
def SolomonFineUptoSaid : Prop := solomonFineUptoRow.holds Try.pinned (OpenSpec.upto solomonFineSpec)

/-- 'wristbandlaw09.SolomonSums', WHERE WHAT IT READS IS OF BULK AT MOST 1048576: true; the input reads as it did. -/
def solomonSumsUptoRow : OpenClaim := { program := "ytfpoedapeoimbaa", sum := "41242d91a53d3f883bdd599671e69f637aa256083b0dc597f928d5cc5f4b55df", func := "wristband/wristbandlaw09.SolomonSums", spec := "solomonSums", unfollowed := true, recurses := true, apart := false, narrowed := true }
def SolomonSumsUptoSaid : Prop := solomonSumsUptoRow.holds Try.pinned (OpenSpec.upto solomonSumsSpec)

end Rows
end Go.Proofs.Ytfpoedapeoimbaa
