/-
  No cell of these rows narrows 'for every input' (looked for: loops, veiled, ifaces, maps, wideKeys, modest, calm, conditions, laid).
  DERIVED. THE GIVEN ROWS OF THIS SEAT. 3 by the template 'for every input the law returns true; each argument reads behind the call as it read before'; 0 by the template 'total and deterministic' (their statements: YtaoaejbohkmddaaTotals.lean).
  GIVEN WITH THE SEED: the statements are not yours to turn. If you find one false, say at which input.
  Laid BY PROGRAM, IN A SANDBOX (cutbox-rows.mjs): the forced cells as the released guide's own fill.sh prints them over the translation 7da7dff3f395c931… (all of the seat's roots in one cut). By AI agents, Wed Nov 11 2026. No macro, syntax, notation, axiom, sorry.
-/
import Derived.Test.YtaoaejbohkmddaaChecked
import GoSem.Claim
import GoSem.ClaimJoined
import GoSem.ClaimMapViews
import Derived.JoinedTies
import Derived.KernelRfl
namespace Go.Proofs.Ytaoaejbohkmddaa
/- THE CELL 'sum', in the pinned program and in every row, IS THE sha256 OF THE DUMP (.gsa) THAT YtaoaejbohkmddaaProg.lean LOADS. Nothing in Lean hashes anything: it is a label: what it is worth is what the hold of that sum in a sandbox is worth. -/
noncomputable def Try.pinned : Pinned := { name := "ytaoaejbohkmddaa", sum := "7da7dff3f395c931d39c1ad526158ec853c73011e9fcb895f06fad5bee74e7d2", checked := Try.checked }
namespace Rows
def none {H : Type} : Left H := { results := [], args := [] }

/-- 'wristbandlaw04.TruncRight': WHATEVER THE INPUT: true; the input reads as it did. -/
def truncRightSpec : ChangeSpec := { name := "truncRight", fn := fun _ => fun
  | [d1, d2, d3, d4] => { results := [.lit (.bool true)], args := [d1, d2, d3, d4] }
  | _ => none }
def truncRightRow : OpenClaim := { program := "ytaoaejbohkmddaa", sum := "7da7dff3f395c931d39c1ad526158ec853c73011e9fcb895f06fad5bee74e7d2", func := "wristband/wristbandlaw04.TruncRight", spec := "truncRight", apart := false }
def TruncRightSaid : Prop := truncRightRow.holds Try.pinned (OpenSpec.ofChange truncRightSpec)

/-- ITS FALSE NEIGHBOUR: 'it returns false'. Refute it at one input. -/
def truncRightWrong : ChangeSpec := { name := "truncRight", fn := fun _ => fun
  | [d1, d2, d3, d4] => { results := [.lit (.bool false)], args := [d1, d2, d3, d4] }
  | _ => none }
def TruncRightWrongFalsely : Prop := truncRightRow.holds Try.pinned (OpenSpec.ofChange truncRightWrong)

/-- 'wristbandlaw04.TruncSame': WHATEVER THE INPUT: true; the input reads as it did. -/
def truncSameSpec : ChangeSpec := { name := "truncSame", fn := fun _ => fun
  | [d1, d2, d3, d4, d5] => { results := [.lit (.bool true)], args := [d1, d2, d3, d4, d5] }
  | _ => none }
def truncSameRow : OpenClaim := { program := "ytaoaejbohkmddaa", sum := "7da7dff3f395c931d39c1ad526158ec853c73011e9fcb895f06fad5bee74e7d2", func := "wristband/wristbandlaw04.TruncSame", spec := "truncSame", apart := false }
def TruncSameSaid : Prop := truncSameRow.holds Try.pinned (OpenSpec.ofChange truncSameSpec)

/-- ITS FALSE NEIGHBOUR: 'it returns false'. Refute it at one input. -/
def truncSameWrong : ChangeSpec := { name := "truncSame", fn := fun _ => fun
  | [d1, d2, d3, d4, d5] => { results := [.lit (.bool false)], args := [d1, d2, d3, d4, d5] }
  | _ => none }
def TruncSameWrongFalsely : Prop := truncSameRow.holds Try.pinned (OpenSpec.ofChange truncSameWrong)

/-- 'wristbandlaw04.TruncDigits': WHATEVER THE INPUT: true; the input reads as it did. -/
def truncDigitsSpec : ChangeSpec := { name := "truncDigits", fn := fun _ => fun
  | [d1, d2, d3, d4] => { results := [.lit (.bool true)], args := [d1, d2, d3, d4] }
  | _ => none }
def truncDigitsRow : OpenClaim := { program := "ytaoaejbohkmddaa", sum := "7da7dff3f395c931d39c1ad526158ec853c73011e9fcb895f06fad5bee74e7d2", func := "wristband/wristbandlaw04.TruncDigits", spec := "truncDigits", apart := false }
def TruncDigitsSaid : Prop := truncDigitsRow.holds Try.pinned (OpenSpec.ofChange truncDigitsSpec)

/-- ITS FALSE NEIGHBOUR: 'it returns false'. Refute it at one input. -/
def truncDigitsWrong : ChangeSpec := { name := "truncDigits", fn := fun _ => fun
  | [d1, d2, d3, d4] => { results := [.lit (.bool false)], args := [d1, d2, d3, d4] }
  | _ => none }
def TruncDigitsWrongFalsely : Prop := truncDigitsRow.holds Try.pinned (OpenSpec.ofChange truncDigitsWrong)

/- THE SECOND FORM. 'bulk': how many values and letters a reading holds, each counted each time it is reached (what is shared counts as often as it is met; a slice's spare places count too). A statement '..UptoSaid' is the law's where the arguments, and the package variables that the reading takes, are together of bulk at most 1048576: NARROWER than '..Said'. Prove '..Said' where nothing that the law and all that it calls make is longer than what came in: it says more and counts as full. Else prove '..UptoSaid'. A law counts once. -/
mutual
def uptoBulk {H : Type} : DataW H → Nat
  | .lit (.string bytes) => bytes.length + 1
  | .lit _ => 1
  | .nil => 1
  | .ptr d => uptoBulk d + 1
  | .slice elems spare => uptoBulkAll elems + uptoBulkAll spare + 1
  | .agg parts => uptoBulkAll parts + 1
  | .iface _ d => uptoBulk d + 1
  | .map entries => uptoBulkEntries entries + 1
  | .held _ => 1
def uptoBulkAll {H : Type} : List (DataW H) → Nat
  | [] => 0
  | d :: r => uptoBulk d + uptoBulkAll r
def uptoBulkEntries {H : Type} : List (Lit × DataW H) → Nat
  | [] => 0
  | x :: r => uptoBulkEntry x + uptoBulkEntries r
def uptoBulkEntry {H : Type} : Lit × DataW H → Nat
  | (.string bytes, d) => bytes.length + uptoBulk d + 1
  | (_, d) => uptoBulk d + 1
 end
def uptoSmall : (H : Type) → List (DataW H) → Bool := fun _ ds => decide (uptoBulkAll ds ≤ 1048576)
def OpenSpec.upto (s : _root_.Go.ChangeSpec) : _root_.Go.OpenSpec := { _root_.Go.OpenSpec.ofChange s with cond := some uptoSmall }

/-- 'wristbandlaw04.TruncRight', WHERE WHAT IT READS IS OF BULK AT MOST 1048576: true; the input reads as it did. -/
def truncRightUptoRow : OpenClaim := { program := "ytaoaejbohkmddaa", sum := "7da7dff3f395c931d39c1ad526158ec853c73011e9fcb895f06fad5bee74e7d2", func := "wristband/wristbandlaw04.TruncRight", spec := "truncRight", apart := false, narrowed := true }
def TruncRightUptoSaid : Prop := truncRightUptoRow.holds Try.pinned (OpenSpec.upto truncRightSpec)

/-- 'wristbandlaw04.TruncSame', WHERE WHAT IT READS IS OF BULK AT MOST 1048576: true; the input reads as it did. -/
def truncSameUptoRow : OpenClaim := { program := "ytaoaejbohkmddaa", sum := "7da7dff3f395c931d39c1ad526158ec853c73011e9fcb895f06fad5bee74e7d2", func := "wristband/wristbandlaw04.TruncSame", spec := "truncSame", apart := false, narrowed := true }
def TruncSameUptoSaid : Prop := truncSameUptoRow.holds Try.pinned (OpenSpec.upto truncSameSpec)

/-- 'wristbandlaw04.TruncDigits', WHERE WHAT IT READS IS OF BULK AT MOST 1048576: true; the input reads as it did. -/
def truncDigitsUptoRow : OpenClaim := { program := "ytaoaejbohkmddaa", sum := "7da7dff3f395c931d39c1ad526158ec853c73011e9fcb895f06fad5bee74e7d2", func := "wristband/wristbandlaw04.TruncDigits", spec := "truncDigits", apart := false, narrowed := true }
def TruncDigitsUptoSaid : Prop := truncDigitsUptoRow.holds Try.pinned (OpenSpec.upto truncDigitsSpec)

end Rows
end Go.Proofs.Ytaoaejbohkmddaa
