/-
  DERIVED. GIVEN WITH THE SEED: THE CARDS: each row of YtdokbhcoekffpaaDoorRows.lean that lists a variable, with what it lists TIED to the program's text (the seventh form; the later family's looks); each row that meets fmt, with fmt's text TOLD by the authors' own Lean function (tested against real Go, not proved from fmt's source: count such statements apart). THE CARD IS WHAT COUNTS. Prove the row's statement (the work); the ties are given (YtdokbhcoekffpaaDoorTie.lean); close each card by the builder's one call (the guide's Derived/Test/ToyasCard.lean, 'card_holds'). Laid BY PROGRAM, IN A SANDBOX (cutbox-door.mjs). By AI agents, Wed Nov 11 2026. No macro, syntax, notation, axiom, sorry.
-/
import Derived.Test.YtdokbhcoekffpaaDoorRows
import GoSem.ClaimSeven
namespace Go.Proofs.YtdokbhcoekffpaaDoor
namespace Rows

/-- THE TIED CARD OF 'wristbandlaw02.ShaRight'. -/
def shaRightCard : Claim7 := { stood := { row := shaRightRow, standIns := [], harness := (true, "6b5a5c75a450d78278f23a700e91567a1d9b99b8659a88b52e91216f6fd7728a"), looks := false }, kinds := [], alts := [], laidByText := true, laidKinds := [.data], laidTests := true, laidLooks := .later }
def ShaRightCardSaid : Prop := Claim7.holds Tryd.pinned (.plain (OpenSpec.ofChange shaRightSpec)) shaRightCard

/-- THE TIED CARD OF 'wristbandlaw03.HmacRight'. -/
def hmacRightCard : Claim7 := { stood := { row := hmacRightRow, standIns := [], harness := (true, "6b5a5c75a450d78278f23a700e91567a1d9b99b8659a88b52e91216f6fd7728a"), looks := false }, kinds := [], alts := [], laidByText := true, laidKinds := [.data], laidTests := true, laidLooks := .later }
def HmacRightCardSaid : Prop := Claim7.holds Tryd.pinned (.plain (OpenSpec.ofChange hmacRightSpec)) hmacRightCard

/-- THE TIED CARD OF 'wristbandlaw03.HmacKeys'. -/
def hmacKeysCard : Claim7 := { stood := { row := hmacKeysRow, standIns := [], harness := (true, "6b5a5c75a450d78278f23a700e91567a1d9b99b8659a88b52e91216f6fd7728a"), looks := false }, kinds := [], alts := [], laidByText := true, laidKinds := [.data], laidTests := true, laidLooks := .later }
def HmacKeysCardSaid : Prop := Claim7.holds Tryd.pinned (.plain (OpenSpec.ofChange hmacKeysSpec)) hmacKeysCard

/-- THE SECOND FORM's CARD OF 'wristbandlaw02.ShaRight'. -/
def shaRightUptoCard : Claim7 := { stood := { row := shaRightUptoRow, standIns := [], harness := (true, "6b5a5c75a450d78278f23a700e91567a1d9b99b8659a88b52e91216f6fd7728a"), looks := false }, kinds := [], alts := [], laidByText := true, laidKinds := [.data], laidTests := true, laidLooks := .later }
def ShaRightUptoCardSaid : Prop := Claim7.holds Tryd.pinned (.plain (OpenSpec.upto shaRightSpec)) shaRightUptoCard

/-- THE SECOND FORM's CARD OF 'wristbandlaw03.HmacRight'. -/
def hmacRightUptoCard : Claim7 := { stood := { row := hmacRightUptoRow, standIns := [], harness := (true, "6b5a5c75a450d78278f23a700e91567a1d9b99b8659a88b52e91216f6fd7728a"), looks := false }, kinds := [], alts := [], laidByText := true, laidKinds := [.data], laidTests := true, laidLooks := .later }
def HmacRightUptoCardSaid : Prop := Claim7.holds Tryd.pinned (.plain (OpenSpec.upto hmacRightSpec)) hmacRightUptoCard

/-- THE SECOND FORM's CARD OF 'wristbandlaw03.HmacKeys'. -/
def hmacKeysUptoCard : Claim7 := { stood := { row := hmacKeysUptoRow, standIns := [], harness := (true, "6b5a5c75a450d78278f23a700e91567a1d9b99b8659a88b52e91216f6fd7728a"), looks := false }, kinds := [], alts := [], laidByText := true, laidKinds := [.data], laidTests := true, laidLooks := .later }
def HmacKeysUptoCardSaid : Prop := Claim7.holds Tryd.pinned (.plain (OpenSpec.upto hmacKeysSpec)) hmacKeysUptoCard
end Rows
end Go.Proofs.YtdokbhcoekffpaaDoor
