/-
  DERIVED. GIVEN WITH THE SEED: THE CARDS: each row of YtknjpmoimjhddaaGreatDoorRows.lean that lists a variable, with what it lists TIED to the program's text (the seventh form; the later family's looks); each row that meets fmt, with fmt's text TOLD by the authors' own Lean function (tested against real Go, not proved from fmt's source: count such statements apart). THE CARD IS WHAT COUNTS. Prove the row's statement (the work); the ties are given (YtknjpmoimjhddaaGreatDoorTie.lean); close each card by the builder's one call (the guide's Derived/Test/ToyasCard.lean, 'card_holds'). Laid BY PROGRAM, IN A SANDBOX (cutbox-door.mjs). By AI agents, Wed Nov 11 2026. No macro, syntax, notation, axiom, sorry.
-/
import Derived.Test.YtknjpmoimjhddaaGreatDoorRows
import GoSem.ClaimSeven
namespace Go.Proofs.YtknjpmoimjhddaaGreatDoor
namespace Rows

/-- THE TIED CARD OF 'wristbandlaw16.BundleRight'. -/
def bundleRightCard : Claim7 := { stood := { row := bundleRightRow, standIns := [], harness := (true, "08ccece8cb9d9fec40d270649cdb02732c37b33270e2ae0db7109bd5de29822f"), looks := true }, kinds := [], alts := [], laidByText := true, laidKinds := [.handle], laidTests := true, laidLooks := .later }
def BundleRightCardSaid : Prop := Claim7.holds Tryz.pinned (.plain (OpenSpec.ofChange bundleRightSpec)) bundleRightCard

/-- THE TIED CARD OF 'wristbandlaw16.BundleSeals'. -/
def bundleSealsCard : Claim7 := { stood := { row := bundleSealsRow, standIns := [], harness := (true, "08ccece8cb9d9fec40d270649cdb02732c37b33270e2ae0db7109bd5de29822f"), looks := true }, kinds := [], alts := [], laidByText := true, laidKinds := [.handle], laidTests := true, laidLooks := .later }
def BundleSealsCardSaid : Prop := Claim7.holds Tryz.pinned (.plain (OpenSpec.ofChange bundleSealsSpec)) bundleSealsCard

/-- THE TIED CARD OF 'wristbandlaw16.BundleBack'. -/
def bundleBackCard : Claim7 := { stood := { row := bundleBackRow, standIns := [], harness := (true, "08ccece8cb9d9fec40d270649cdb02732c37b33270e2ae0db7109bd5de29822f"), looks := true }, kinds := [], alts := [], laidByText := true, laidKinds := [.handle], laidTests := true, laidLooks := .later }
def BundleBackCardSaid : Prop := Claim7.holds Tryz.pinned (.plain (OpenSpec.ofChange bundleBackSpec)) bundleBackCard

/-- THE TIED CARD OF 'wristbandlaw16.BundleFinds'. -/
def bundleFindsCard : Claim7 := { stood := { row := bundleFindsRow, standIns := [], harness := (true, "08ccece8cb9d9fec40d270649cdb02732c37b33270e2ae0db7109bd5de29822f"), looks := true }, kinds := [], alts := [], laidByText := true, laidKinds := [.handle], laidTests := true, laidLooks := .later }
def BundleFindsCardSaid : Prop := Claim7.holds Tryz.pinned (.plain (OpenSpec.ofChange bundleFindsSpec)) bundleFindsCard

/-- THE TIED CARD OF 'wristbandlaw14.RecordRight'. -/
def recordRightCard : Claim7 := { stood := { row := recordRightRow, standIns := [], harness := (true, "08ccece8cb9d9fec40d270649cdb02732c37b33270e2ae0db7109bd5de29822f"), looks := true }, kinds := [], alts := [], laidByText := true, laidKinds := [.handle], laidTests := true, laidLooks := .later }
def RecordRightCardSaid : Prop := Claim7.holds Tryz.pinned (.plain (OpenSpec.ofChange recordRightSpec)) recordRightCard

/-- THE TIED CARD OF 'wristbandlaw13.BarsRight'. -/
def barsRightCard : Claim7 := { stood := { row := barsRightRow, standIns := [], harness := (true, "08ccece8cb9d9fec40d270649cdb02732c37b33270e2ae0db7109bd5de29822f"), looks := true }, kinds := [], alts := [], laidByText := true, laidKinds := [.handle], laidTests := true, laidLooks := .later }
def BarsRightCardSaid : Prop := Claim7.holds Tryz.pinned (.plain (OpenSpec.ofChange barsRightSpec)) barsRightCard

/-- THE SECOND FORM's CARD OF 'wristbandlaw16.BundleRight'. -/
def bundleRightUptoCard : Claim7 := { stood := { row := bundleRightUptoRow, standIns := [], harness := (true, "08ccece8cb9d9fec40d270649cdb02732c37b33270e2ae0db7109bd5de29822f"), looks := true }, kinds := [], alts := [], laidByText := true, laidKinds := [.handle], laidTests := true, laidLooks := .later }
def BundleRightUptoCardSaid : Prop := Claim7.holds Tryz.pinned (.plain (OpenSpec.upto bundleRightSpec)) bundleRightUptoCard

/-- THE SECOND FORM's CARD OF 'wristbandlaw16.BundleSeals'. -/
def bundleSealsUptoCard : Claim7 := { stood := { row := bundleSealsUptoRow, standIns := [], harness := (true, "08ccece8cb9d9fec40d270649cdb02732c37b33270e2ae0db7109bd5de29822f"), looks := true }, kinds := [], alts := [], laidByText := true, laidKinds := [.handle], laidTests := true, laidLooks := .later }
def BundleSealsUptoCardSaid : Prop := Claim7.holds Tryz.pinned (.plain (OpenSpec.upto bundleSealsSpec)) bundleSealsUptoCard

/-- THE SECOND FORM's CARD OF 'wristbandlaw16.BundleBack'. -/
def bundleBackUptoCard : Claim7 := { stood := { row := bundleBackUptoRow, standIns := [], harness := (true, "08ccece8cb9d9fec40d270649cdb02732c37b33270e2ae0db7109bd5de29822f"), looks := true }, kinds := [], alts := [], laidByText := true, laidKinds := [.handle], laidTests := true, laidLooks := .later }
def BundleBackUptoCardSaid : Prop := Claim7.holds Tryz.pinned (.plain (OpenSpec.upto bundleBackSpec)) bundleBackUptoCard

/-- THE SECOND FORM's CARD OF 'wristbandlaw16.BundleFinds'. -/
def bundleFindsUptoCard : Claim7 := { stood := { row := bundleFindsUptoRow, standIns := [], harness := (true, "08ccece8cb9d9fec40d270649cdb02732c37b33270e2ae0db7109bd5de29822f"), looks := true }, kinds := [], alts := [], laidByText := true, laidKinds := [.handle], laidTests := true, laidLooks := .later }
def BundleFindsUptoCardSaid : Prop := Claim7.holds Tryz.pinned (.plain (OpenSpec.upto bundleFindsSpec)) bundleFindsUptoCard

/-- THE SECOND FORM's CARD OF 'wristbandlaw14.RecordRight'. -/
def recordRightUptoCard : Claim7 := { stood := { row := recordRightUptoRow, standIns := [], harness := (true, "08ccece8cb9d9fec40d270649cdb02732c37b33270e2ae0db7109bd5de29822f"), looks := true }, kinds := [], alts := [], laidByText := true, laidKinds := [.handle], laidTests := true, laidLooks := .later }
def RecordRightUptoCardSaid : Prop := Claim7.holds Tryz.pinned (.plain (OpenSpec.upto recordRightSpec)) recordRightUptoCard

/-- THE SECOND FORM's CARD OF 'wristbandlaw13.BarsRight'. -/
def barsRightUptoCard : Claim7 := { stood := { row := barsRightUptoRow, standIns := [], harness := (true, "08ccece8cb9d9fec40d270649cdb02732c37b33270e2ae0db7109bd5de29822f"), looks := true }, kinds := [], alts := [], laidByText := true, laidKinds := [.handle], laidTests := true, laidLooks := .later }
def BarsRightUptoCardSaid : Prop := Claim7.holds Tryz.pinned (.plain (OpenSpec.upto barsRightSpec)) barsRightUptoCard
end Rows
end Go.Proofs.YtknjpmoimjhddaaGreatDoor
