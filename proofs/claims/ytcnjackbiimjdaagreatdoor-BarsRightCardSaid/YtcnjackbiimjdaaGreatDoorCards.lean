/-
  DERIVED. GIVEN WITH THE SEED: THE CARDS: each row of YtcnjackbiimjdaaGreatDoorRows.lean that lists a variable, with what it lists TIED to the program's text (the seventh form; the later family's looks); each row that meets fmt, with fmt's text TOLD by the authors' own Lean function (tested against real Go, not proved from fmt's source: count such statements apart). THE CARD IS WHAT COUNTS. Prove the row's statement (the work); the ties are given (YtcnjackbiimjdaaGreatDoorTie.lean); close each card by the builder's one call (the guide's Derived/Test/ToyasCard.lean, 'card_holds'). Laid BY PROGRAM, IN A SANDBOX (cutbox-door.mjs). By AI agents, Wed Nov 11 2026. No macro, syntax, notation, axiom, sorry.
-/
import Derived.Test.YtcnjackbiimjdaaGreatDoorRows
import GoSem.ClaimSeven
namespace Go.Proofs.YtcnjackbiimjdaaGreatDoor
namespace Rows

/-- THE TIED CARD OF 'wristbandlaw13.BarsRight'. -/
def barsRightCard : Claim7 := { stood := { row := barsRightRow, standIns := [], harness := (true, "94e88abd211960c65944e40355b9029372655b03d07a3fa0ceed71ce6fb23a3b"), looks := true }, kinds := [], alts := [], laidByText := true, laidKinds := [.handle], laidTests := true, laidLooks := .later }
def BarsRightCardSaid : Prop := Claim7.holds Tryz.pinned (.plain (OpenSpec.ofChange barsRightSpec)) barsRightCard

/-- THE SECOND FORM's CARD OF 'wristbandlaw13.BarsRight'. -/
def barsRightUptoCard : Claim7 := { stood := { row := barsRightUptoRow, standIns := [], harness := (true, "94e88abd211960c65944e40355b9029372655b03d07a3fa0ceed71ce6fb23a3b"), looks := true }, kinds := [], alts := [], laidByText := true, laidKinds := [.handle], laidTests := true, laidLooks := .later }
def BarsRightUptoCardSaid : Prop := Claim7.holds Tryz.pinned (.plain (OpenSpec.upto barsRightSpec)) barsRightUptoCard
end Rows
end Go.Proofs.YtcnjackbiimjdaaGreatDoor
