/-
  DERIVED. GIVEN WITH THE SEED: THE CARDS: each row of YteppocjgodmpdaaGreatDoorRows.lean that lists a variable, with what it lists TIED to the program's text (the seventh form; the later family's looks); each row that meets fmt, with fmt's text TOLD by the authors' own Lean function (tested against real Go, not proved from fmt's source: count such statements apart). THE CARD IS WHAT COUNTS. Prove the row's statement (the work); the ties are given (YteppocjgodmpdaaGreatDoorTie.lean); close each card by the builder's one call (the guide's Derived/Test/ToyasCard.lean, 'card_holds'). Laid BY PROGRAM, IN A SANDBOX (cutbox-door.mjs). By AI agents, Wed Nov 11 2026. No macro, syntax, notation, axiom, sorry.
-/
import Derived.Test.YteppocjgodmpdaaGreatDoorRows
import GoSem.ClaimSeven
namespace Go.Proofs.YteppocjgodmpdaaGreatDoor
namespace Rows

/-- THE TIED CARD OF 'wristbandlaw20.ShelfRight'. -/
def shelfRightCard : Claim7 := { stood := { row := shelfRightRow, standIns := [], harness := (true, "70766d3d99ee8c099fb805ce62fbb01f97eb062a7a1c5b9e2ce7ef03e467b77d"), looks := true }, kinds := [], alts := [], laidByText := true, laidKinds := [.data], laidTests := true, laidLooks := .later }
def ShelfRightCardSaid : Prop := Claim7.holds Tryz.pinned (.plain (OpenSpec.ofChange shelfRightSpec)) shelfRightCard

/-- THE TIED CARD OF 'wristbandlaw20.ShelfKeeps'. -/
def shelfKeepsCard : Claim7 := { stood := { row := shelfKeepsRow, standIns := [], harness := (true, "70766d3d99ee8c099fb805ce62fbb01f97eb062a7a1c5b9e2ce7ef03e467b77d"), looks := true }, kinds := [], alts := [], laidByText := true, laidKinds := [.data], laidTests := true, laidLooks := .later }
def ShelfKeepsCardSaid : Prop := Claim7.holds Tryz.pinned (.plain (OpenSpec.ofChange shelfKeepsSpec)) shelfKeepsCard

/-- THE TIED CARD OF 'wristbandlaw20.ShelfLasts'. -/
def shelfLastsCard : Claim7 := { stood := { row := shelfLastsRow, standIns := [], harness := (true, "70766d3d99ee8c099fb805ce62fbb01f97eb062a7a1c5b9e2ce7ef03e467b77d"), looks := true }, kinds := [], alts := [], laidByText := true, laidKinds := [.data], laidTests := true, laidLooks := .later }
def ShelfLastsCardSaid : Prop := Claim7.holds Tryz.pinned (.plain (OpenSpec.ofChange shelfLastsSpec)) shelfLastsCard

/-- THE TIED CARD OF 'wristbandlaw20.ShelfOpens'. -/
def shelfOpensCard : Claim7 := { stood := { row := shelfOpensRow, standIns := [], harness := (true, "70766d3d99ee8c099fb805ce62fbb01f97eb062a7a1c5b9e2ce7ef03e467b77d"), looks := true }, kinds := [], alts := [], laidByText := true, laidKinds := [.data], laidTests := true, laidLooks := .later }
def ShelfOpensCardSaid : Prop := Claim7.holds Tryz.pinned (.plain (OpenSpec.ofChange shelfOpensSpec)) shelfOpensCard

/-- THE TIED CARD OF 'wristbandlaw13.BarsRight'. -/
def barsRightCard : Claim7 := { stood := { row := barsRightRow, standIns := [], harness := (true, "70766d3d99ee8c099fb805ce62fbb01f97eb062a7a1c5b9e2ce7ef03e467b77d"), looks := true }, kinds := [], alts := [], laidByText := true, laidKinds := [.handle], laidTests := true, laidLooks := .later }
def BarsRightCardSaid : Prop := Claim7.holds Tryz.pinned (.plain (OpenSpec.ofChange barsRightSpec)) barsRightCard

/-- THE SECOND FORM's CARD OF 'wristbandlaw20.ShelfRight'. -/
def shelfRightUptoCard : Claim7 := { stood := { row := shelfRightUptoRow, standIns := [], harness := (true, "70766d3d99ee8c099fb805ce62fbb01f97eb062a7a1c5b9e2ce7ef03e467b77d"), looks := true }, kinds := [], alts := [], laidByText := true, laidKinds := [.data], laidTests := true, laidLooks := .later }
def ShelfRightUptoCardSaid : Prop := Claim7.holds Tryz.pinned (.plain (OpenSpec.upto shelfRightSpec)) shelfRightUptoCard

/-- THE SECOND FORM's CARD OF 'wristbandlaw20.ShelfKeeps'. -/
def shelfKeepsUptoCard : Claim7 := { stood := { row := shelfKeepsUptoRow, standIns := [], harness := (true, "70766d3d99ee8c099fb805ce62fbb01f97eb062a7a1c5b9e2ce7ef03e467b77d"), looks := true }, kinds := [], alts := [], laidByText := true, laidKinds := [.data], laidTests := true, laidLooks := .later }
def ShelfKeepsUptoCardSaid : Prop := Claim7.holds Tryz.pinned (.plain (OpenSpec.upto shelfKeepsSpec)) shelfKeepsUptoCard

/-- THE SECOND FORM's CARD OF 'wristbandlaw20.ShelfLasts'. -/
def shelfLastsUptoCard : Claim7 := { stood := { row := shelfLastsUptoRow, standIns := [], harness := (true, "70766d3d99ee8c099fb805ce62fbb01f97eb062a7a1c5b9e2ce7ef03e467b77d"), looks := true }, kinds := [], alts := [], laidByText := true, laidKinds := [.data], laidTests := true, laidLooks := .later }
def ShelfLastsUptoCardSaid : Prop := Claim7.holds Tryz.pinned (.plain (OpenSpec.upto shelfLastsSpec)) shelfLastsUptoCard

/-- THE SECOND FORM's CARD OF 'wristbandlaw20.ShelfOpens'. -/
def shelfOpensUptoCard : Claim7 := { stood := { row := shelfOpensUptoRow, standIns := [], harness := (true, "70766d3d99ee8c099fb805ce62fbb01f97eb062a7a1c5b9e2ce7ef03e467b77d"), looks := true }, kinds := [], alts := [], laidByText := true, laidKinds := [.data], laidTests := true, laidLooks := .later }
def ShelfOpensUptoCardSaid : Prop := Claim7.holds Tryz.pinned (.plain (OpenSpec.upto shelfOpensSpec)) shelfOpensUptoCard

/-- THE SECOND FORM's CARD OF 'wristbandlaw13.BarsRight'. -/
def barsRightUptoCard : Claim7 := { stood := { row := barsRightUptoRow, standIns := [], harness := (true, "70766d3d99ee8c099fb805ce62fbb01f97eb062a7a1c5b9e2ce7ef03e467b77d"), looks := true }, kinds := [], alts := [], laidByText := true, laidKinds := [.handle], laidTests := true, laidLooks := .later }
def BarsRightUptoCardSaid : Prop := Claim7.holds Tryz.pinned (.plain (OpenSpec.upto barsRightSpec)) barsRightUptoCard
end Rows
end Go.Proofs.YteppocjgodmpdaaGreatDoor
