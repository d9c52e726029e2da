/-
  DERIVED. GIVEN WITH THE SEED: THE CARDS: each row of YtdadnmnhaeohaaaDoorRows.lean that lists a variable, with what it lists TIED to the program's text (the seventh form; the later family's looks); each row that meets fmt, with fmt's text TOLD by the authors' own Lean function (tested against real Go, not proved from fmt's source: count such statements apart). THE CARD IS WHAT COUNTS. Prove the row's statement (the work); the ties are given (YtdadnmnhaeohaaaDoorTie.lean); close each card by the builder's one call (the guide's Derived/Test/ToyasCard.lean, 'card_holds'). Laid BY PROGRAM, IN A SANDBOX (cutbox-door.mjs). By AI agents, Wed Nov 11 2026. No macro, syntax, notation, axiom, sorry.
-/
import Derived.Test.YtdadnmnhaeohaaaDoorRows
import GoSem.ClaimSeven
namespace Go.Proofs.YtdadnmnhaeohaaaDoor
namespace Rows

/-- THE TIED CARD OF 'wristbandlaw02.ShaRight'. -/
def shaRightCard : Claim7 := { stood := { row := shaRightRow, standIns := [], harness := (true, "6e79e138522a04cbaf77de1ea4f077b8f5002342cc76b7edf51e3d7e54f65e43"), looks := false }, kinds := [], alts := [], laidByText := true, laidKinds := [.data], laidTests := true, laidLooks := .later }
def ShaRightCardSaid : Prop := Claim7.holds Tryd.pinned (.plain (OpenSpec.ofChange shaRightSpec)) shaRightCard

/-- THE TIED CARD OF 'wristbandlaw02.ShaGoesOn'. -/
def shaGoesOnCard : Claim7 := { stood := { row := shaGoesOnRow, standIns := [], harness := (true, "6e79e138522a04cbaf77de1ea4f077b8f5002342cc76b7edf51e3d7e54f65e43"), looks := false }, kinds := [], alts := [], laidByText := true, laidKinds := [.data], laidTests := true, laidLooks := .later }
def ShaGoesOnCardSaid : Prop := Claim7.holds Tryd.pinned (.plain (OpenSpec.ofChange shaGoesOnSpec)) shaGoesOnCard

/-- THE TIED CARD OF 'wristbandlaw02.ShaBlocks'. -/
def shaBlocksCard : Claim7 := { stood := { row := shaBlocksRow, standIns := [], harness := (true, "6e79e138522a04cbaf77de1ea4f077b8f5002342cc76b7edf51e3d7e54f65e43"), looks := false }, kinds := [], alts := [], laidByText := true, laidKinds := [.data], laidTests := true, laidLooks := .later }
def ShaBlocksCardSaid : Prop := Claim7.holds Tryd.pinned (.plain (OpenSpec.ofChange shaBlocksSpec)) shaBlocksCard

/-- THE SECOND FORM's CARD OF 'wristbandlaw02.ShaRight'. -/
def shaRightUptoCard : Claim7 := { stood := { row := shaRightUptoRow, standIns := [], harness := (true, "6e79e138522a04cbaf77de1ea4f077b8f5002342cc76b7edf51e3d7e54f65e43"), looks := false }, kinds := [], alts := [], laidByText := true, laidKinds := [.data], laidTests := true, laidLooks := .later }
def ShaRightUptoCardSaid : Prop := Claim7.holds Tryd.pinned (.plain (OpenSpec.upto shaRightSpec)) shaRightUptoCard

/-- THE SECOND FORM's CARD OF 'wristbandlaw02.ShaGoesOn'. -/
def shaGoesOnUptoCard : Claim7 := { stood := { row := shaGoesOnUptoRow, standIns := [], harness := (true, "6e79e138522a04cbaf77de1ea4f077b8f5002342cc76b7edf51e3d7e54f65e43"), looks := false }, kinds := [], alts := [], laidByText := true, laidKinds := [.data], laidTests := true, laidLooks := .later }
def ShaGoesOnUptoCardSaid : Prop := Claim7.holds Tryd.pinned (.plain (OpenSpec.upto shaGoesOnSpec)) shaGoesOnUptoCard

/-- THE SECOND FORM's CARD OF 'wristbandlaw02.ShaBlocks'. -/
def shaBlocksUptoCard : Claim7 := { stood := { row := shaBlocksUptoRow, standIns := [], harness := (true, "6e79e138522a04cbaf77de1ea4f077b8f5002342cc76b7edf51e3d7e54f65e43"), looks := false }, kinds := [], alts := [], laidByText := true, laidKinds := [.data], laidTests := true, laidLooks := .later }
def ShaBlocksUptoCardSaid : Prop := Claim7.holds Tryd.pinned (.plain (OpenSpec.upto shaBlocksSpec)) shaBlocksUptoCard
end Rows
end Go.Proofs.YtdadnmnhaeohaaaDoor
