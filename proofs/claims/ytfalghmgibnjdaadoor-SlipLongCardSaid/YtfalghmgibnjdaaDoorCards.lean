/-
  DERIVED. GIVEN WITH THE SEED: THE CARDS: each row of YtfalghmgibnjdaaDoorRows.lean that lists a variable, with what it lists TIED to the program's text (the seventh form; the later family's looks); each row that meets fmt, with fmt's text TOLD by the authors' own Lean function (tested against real Go, not proved from fmt's source: count such statements apart). THE CARD IS WHAT COUNTS. Prove the row's statement (the work); the ties are given (YtfalghmgibnjdaaDoorTie.lean); close each card by the builder's one call (the guide's Derived/Test/ToyasCard.lean, 'card_holds'). Laid BY PROGRAM, IN A SANDBOX (cutbox-door.mjs). By AI agents, Wed Nov 11 2026. No macro, syntax, notation, axiom, sorry.
-/
import Derived.Test.YtfalghmgibnjdaaDoorRows
import GoSem.ClaimSeven
namespace Go.Proofs.YtfalghmgibnjdaaDoor
namespace Rows

/-- THE TIED CARD OF 'wristbandlaw18.SlipRight'. -/
def slipRightCard : Claim7 := { stood := { row := slipRightRow, standIns := [], harness := (true, "6d330ba1a679b77443bf3d476ec3e73db2c4a7f7f34fd7f9054bf5ccdf58dce0"), looks := false }, kinds := [], alts := [], laidByText := true, laidKinds := [.data], laidTests := true, laidLooks := .later }
def SlipRightCardSaid : Prop := Claim7.holds Tryd.pinned (.plain (OpenSpec.ofChange slipRightSpec)) slipRightCard

/-- THE TIED CARD OF 'wristbandlaw18.SlipLong'. -/
def slipLongCard : Claim7 := { stood := { row := slipLongRow, standIns := [], harness := (true, "6d330ba1a679b77443bf3d476ec3e73db2c4a7f7f34fd7f9054bf5ccdf58dce0"), looks := false }, kinds := [], alts := [], laidByText := true, laidKinds := [.data], laidTests := true, laidLooks := .later }
def SlipLongCardSaid : Prop := Claim7.holds Tryd.pinned (.plain (OpenSpec.ofChange slipLongSpec)) slipLongCard

/-- THE TIED CARD OF 'wristbandlaw18.SlipTorn'. -/
def slipTornCard : Claim7 := { stood := { row := slipTornRow, standIns := [], harness := (true, "6d330ba1a679b77443bf3d476ec3e73db2c4a7f7f34fd7f9054bf5ccdf58dce0"), looks := false }, kinds := [], alts := [], laidByText := true, laidKinds := [.data], laidTests := true, laidLooks := .later }
def SlipTornCardSaid : Prop := Claim7.holds Tryd.pinned (.plain (OpenSpec.ofChange slipTornSpec)) slipTornCard

/-- THE TIED CARD OF 'wristbandlaw18.SlipRow'. -/
def slipRowCard : Claim7 := { stood := { row := slipRowRow, standIns := [], harness := (true, "6d330ba1a679b77443bf3d476ec3e73db2c4a7f7f34fd7f9054bf5ccdf58dce0"), looks := false }, kinds := [], alts := [], laidByText := true, laidKinds := [.data], laidTests := true, laidLooks := .later }
def SlipRowCardSaid : Prop := Claim7.holds Tryd.pinned (.plain (OpenSpec.ofChange slipRowSpec)) slipRowCard

/-- THE SECOND FORM's CARD OF 'wristbandlaw18.SlipRight'. -/
def slipRightUptoCard : Claim7 := { stood := { row := slipRightUptoRow, standIns := [], harness := (true, "6d330ba1a679b77443bf3d476ec3e73db2c4a7f7f34fd7f9054bf5ccdf58dce0"), looks := false }, kinds := [], alts := [], laidByText := true, laidKinds := [.data], laidTests := true, laidLooks := .later }
def SlipRightUptoCardSaid : Prop := Claim7.holds Tryd.pinned (.plain (OpenSpec.upto slipRightSpec)) slipRightUptoCard

/-- THE SECOND FORM's CARD OF 'wristbandlaw18.SlipLong'. -/
def slipLongUptoCard : Claim7 := { stood := { row := slipLongUptoRow, standIns := [], harness := (true, "6d330ba1a679b77443bf3d476ec3e73db2c4a7f7f34fd7f9054bf5ccdf58dce0"), looks := false }, kinds := [], alts := [], laidByText := true, laidKinds := [.data], laidTests := true, laidLooks := .later }
def SlipLongUptoCardSaid : Prop := Claim7.holds Tryd.pinned (.plain (OpenSpec.upto slipLongSpec)) slipLongUptoCard

/-- THE SECOND FORM's CARD OF 'wristbandlaw18.SlipTorn'. -/
def slipTornUptoCard : Claim7 := { stood := { row := slipTornUptoRow, standIns := [], harness := (true, "6d330ba1a679b77443bf3d476ec3e73db2c4a7f7f34fd7f9054bf5ccdf58dce0"), looks := false }, kinds := [], alts := [], laidByText := true, laidKinds := [.data], laidTests := true, laidLooks := .later }
def SlipTornUptoCardSaid : Prop := Claim7.holds Tryd.pinned (.plain (OpenSpec.upto slipTornSpec)) slipTornUptoCard

/-- THE SECOND FORM's CARD OF 'wristbandlaw18.SlipRow'. -/
def slipRowUptoCard : Claim7 := { stood := { row := slipRowUptoRow, standIns := [], harness := (true, "6d330ba1a679b77443bf3d476ec3e73db2c4a7f7f34fd7f9054bf5ccdf58dce0"), looks := false }, kinds := [], alts := [], laidByText := true, laidKinds := [.data], laidTests := true, laidLooks := .later }
def SlipRowUptoCardSaid : Prop := Claim7.holds Tryd.pinned (.plain (OpenSpec.upto slipRowSpec)) slipRowUptoCard
end Rows
end Go.Proofs.YtfalghmgibnjdaaDoor
