/-
  DERIVED. GIVEN WITH THE SEED: THE CARDS: each row of YtmljhkdojopljaaGreatDoorRows.lean that lists a variable, with what it lists TIED to the program's text (the seventh form; the later family's looks); each row that meets fmt, with fmt's text TOLD by the authors' own Lean function (tested against real Go, not proved from fmt's source: count such statements apart). THE CARD IS WHAT COUNTS. Prove the row's statement (the work); the ties are given (YtmljhkdojopljaaGreatDoorTie.lean); close each card by the builder's one call (the guide's Derived/Test/ToyasCard.lean, 'card_holds'). Laid BY PROGRAM, IN A SANDBOX (cutbox-door.mjs). By AI agents, Wed Nov 11 2026. No macro, syntax, notation, axiom, sorry.
-/
import Derived.Test.YtmljhkdojopljaaGreatDoorRows
import GoSem.ClaimSeven
namespace Go.Proofs.YtmljhkdojopljaaGreatDoor
namespace Rows

/-- THE TIED CARD OF 'wristbandlaw16.BundleRight'. -/
def bundleRightCard : Claim7 := { stood := { row := bundleRightRow, standIns := [], harness := (true, "2d733d9941add466043995926eba42f8e7a96f02ba157d09ea7bb13e04550b00"), looks := true }, kinds := [], alts := [], laidByText := true, laidKinds := [.handle], laidTests := true, laidLooks := .later }
def BundleRightCardSaid : Prop := Claim7.holds Tryz.pinned (.plain (OpenSpec.ofChange bundleRightSpec)) bundleRightCard

/-- THE TIED CARD OF 'wristbandlaw16.BundleBack'. -/
def bundleBackCard : Claim7 := { stood := { row := bundleBackRow, standIns := [], harness := (true, "2d733d9941add466043995926eba42f8e7a96f02ba157d09ea7bb13e04550b00"), looks := true }, kinds := [], alts := [], laidByText := true, laidKinds := [.handle], laidTests := true, laidLooks := .later }
def BundleBackCardSaid : Prop := Claim7.holds Tryz.pinned (.plain (OpenSpec.ofChange bundleBackSpec)) bundleBackCard

/-- THE TIED CARD OF 'wristbandlaw16.BundleFinds'. -/
def bundleFindsCard : Claim7 := { stood := { row := bundleFindsRow, standIns := [], harness := (true, "2d733d9941add466043995926eba42f8e7a96f02ba157d09ea7bb13e04550b00"), looks := true }, kinds := [], alts := [], laidByText := true, laidKinds := [.handle], laidTests := true, laidLooks := .later }
def BundleFindsCardSaid : Prop := Claim7.holds Tryz.pinned (.plain (OpenSpec.ofChange bundleFindsSpec)) bundleFindsCard

/-- THE SECOND FORM's CARD OF 'wristbandlaw16.BundleRight'. -/
def bundleRightUptoCard : Claim7 := { stood := { row := bundleRightUptoRow, standIns := [], harness := (true, "2d733d9941add466043995926eba42f8e7a96f02ba157d09ea7bb13e04550b00"), looks := true }, kinds := [], alts := [], laidByText := true, laidKinds := [.handle], laidTests := true, laidLooks := .later }
def BundleRightUptoCardSaid : Prop := Claim7.holds Tryz.pinned (.plain (OpenSpec.upto bundleRightSpec)) bundleRightUptoCard

/-- THE SECOND FORM's CARD OF 'wristbandlaw16.BundleBack'. -/
def bundleBackUptoCard : Claim7 := { stood := { row := bundleBackUptoRow, standIns := [], harness := (true, "2d733d9941add466043995926eba42f8e7a96f02ba157d09ea7bb13e04550b00"), looks := true }, kinds := [], alts := [], laidByText := true, laidKinds := [.handle], laidTests := true, laidLooks := .later }
def BundleBackUptoCardSaid : Prop := Claim7.holds Tryz.pinned (.plain (OpenSpec.upto bundleBackSpec)) bundleBackUptoCard

/-- THE SECOND FORM's CARD OF 'wristbandlaw16.BundleFinds'. -/
def bundleFindsUptoCard : Claim7 := { stood := { row := bundleFindsUptoRow, standIns := [], harness := (true, "2d733d9941add466043995926eba42f8e7a96f02ba157d09ea7bb13e04550b00"), looks := true }, kinds := [], alts := [], laidByText := true, laidKinds := [.handle], laidTests := true, laidLooks := .later }
def BundleFindsUptoCardSaid : Prop := Claim7.holds Tryz.pinned (.plain (OpenSpec.upto bundleFindsSpec)) bundleFindsUptoCard
end Rows
end Go.Proofs.YtmljhkdojopljaaGreatDoor
