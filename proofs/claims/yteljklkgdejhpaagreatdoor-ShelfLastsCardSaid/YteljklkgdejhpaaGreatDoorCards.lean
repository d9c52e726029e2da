/-
  DERIVED. GIVEN WITH THE SEED: THE CARDS: each row of YteljklkgdejhpaaGreatDoorRows.lean that lists a variable, with what it lists TIED to the program's text (the seventh form; the later family's looks); each row that meets fmt, with fmt's text TOLD by the authors' own Lean function (tested against real Go, not proved from fmt's source: count such statements apart). THE CARD IS WHAT COUNTS. Prove the row's statement (the work); the ties are given (YteljklkgdejhpaaGreatDoorTie.lean); close each card by the builder's one call (the guide's Derived/Test/ToyasCard.lean, 'card_holds'). Laid BY PROGRAM, IN A SANDBOX (cutbox-door.mjs). By AI agents, Wed Nov 11 2026. No macro, syntax, notation, axiom, sorry.
-/
import Derived.Test.YteljklkgdejhpaaGreatDoorRows
import GoSem.ClaimSeven
namespace Go.Proofs.YteljklkgdejhpaaGreatDoor
namespace Rows

/-- THE TIED CARD OF 'wristbandlaw20.ShelfRight'. -/
def shelfRightCard : Claim7 := { stood := { row := shelfRightRow, standIns := [], harness := (true, "eceafe234982d7d7df4d58651f551814c63cc5b8bf8412c3a19314a4eb711d69"), looks := false }, kinds := [], alts := [], laidByText := true, laidKinds := [.data], laidTests := true, laidLooks := .later }
def ShelfRightCardSaid : Prop := Claim7.holds Tryz.pinned (.plain (OpenSpec.ofChange shelfRightSpec)) shelfRightCard

/-- THE TIED CARD OF 'wristbandlaw20.ShelfKeeps'. -/
def shelfKeepsCard : Claim7 := { stood := { row := shelfKeepsRow, standIns := [], harness := (true, "eceafe234982d7d7df4d58651f551814c63cc5b8bf8412c3a19314a4eb711d69"), looks := false }, kinds := [], alts := [], laidByText := true, laidKinds := [.data], laidTests := true, laidLooks := .later }
def ShelfKeepsCardSaid : Prop := Claim7.holds Tryz.pinned (.plain (OpenSpec.ofChange shelfKeepsSpec)) shelfKeepsCard

/-- THE TIED CARD OF 'wristbandlaw20.ShelfLasts'. -/
def shelfLastsCard : Claim7 := { stood := { row := shelfLastsRow, standIns := [], harness := (true, "eceafe234982d7d7df4d58651f551814c63cc5b8bf8412c3a19314a4eb711d69"), looks := false }, kinds := [], alts := [], laidByText := true, laidKinds := [.data], laidTests := true, laidLooks := .later }
def ShelfLastsCardSaid : Prop := Claim7.holds Tryz.pinned (.plain (OpenSpec.ofChange shelfLastsSpec)) shelfLastsCard

/-- THE TIED CARD OF 'wristbandlaw20.ShelfOpens'. -/
def shelfOpensCard : Claim7 := { stood := { row := shelfOpensRow, standIns := [], harness := (true, "eceafe234982d7d7df4d58651f551814c63cc5b8bf8412c3a19314a4eb711d69"), looks := false }, kinds := [], alts := [], laidByText := true, laidKinds := [.data], laidTests := true, laidLooks := .later }
def ShelfOpensCardSaid : Prop := Claim7.holds Tryz.pinned (.plain (OpenSpec.ofChange shelfOpensSpec)) shelfOpensCard

/-- THE SECOND FORM's CARD OF 'wristbandlaw20.ShelfRight'. -/
def shelfRightUptoCard : Claim7 := { stood := { row := shelfRightUptoRow, standIns := [], harness := (true, "eceafe234982d7d7df4d58651f551814c63cc5b8bf8412c3a19314a4eb711d69"), looks := false }, kinds := [], alts := [], laidByText := true, laidKinds := [.data], laidTests := true, laidLooks := .later }
def ShelfRightUptoCardSaid : Prop := Claim7.holds Tryz.pinned (.plain (OpenSpec.upto shelfRightSpec)) shelfRightUptoCard

/-- THE SECOND FORM's CARD OF 'wristbandlaw20.ShelfKeeps'. -/
def shelfKeepsUptoCard : Claim7 := { stood := { row := shelfKeepsUptoRow, standIns := [], harness := (true, "eceafe234982d7d7df4d58651f551814c63cc5b8bf8412c3a19314a4eb711d69"), looks := false }, kinds := [], alts := [], laidByText := true, laidKinds := [.data], laidTests := true, laidLooks := .later }
def ShelfKeepsUptoCardSaid : Prop := Claim7.holds Tryz.pinned (.plain (OpenSpec.upto shelfKeepsSpec)) shelfKeepsUptoCard

/-- THE SECOND FORM's CARD OF 'wristbandlaw20.ShelfLasts'. -/
def shelfLastsUptoCard : Claim7 := { stood := { row := shelfLastsUptoRow, standIns := [], harness := (true, "eceafe234982d7d7df4d58651f551814c63cc5b8bf8412c3a19314a4eb711d69"), looks := false }, kinds := [], alts := [], laidByText := true, laidKinds := [.data], laidTests := true, laidLooks := .later }
def ShelfLastsUptoCardSaid : Prop := Claim7.holds Tryz.pinned (.plain (OpenSpec.upto shelfLastsSpec)) shelfLastsUptoCard

/-- THE SECOND FORM's CARD OF 'wristbandlaw20.ShelfOpens'. -/
def shelfOpensUptoCard : Claim7 := { stood := { row := shelfOpensUptoRow, standIns := [], harness := (true, "eceafe234982d7d7df4d58651f551814c63cc5b8bf8412c3a19314a4eb711d69"), looks := false }, kinds := [], alts := [], laidByText := true, laidKinds := [.data], laidTests := true, laidLooks := .later }
def ShelfOpensUptoCardSaid : Prop := Claim7.holds Tryz.pinned (.plain (OpenSpec.upto shelfOpensSpec)) shelfOpensUptoCard
end Rows
end Go.Proofs.YteljklkgdejhpaaGreatDoor
