/-
  DERIVED. GIVEN WITH THE SEED: THE CARDS: each row of YteppocjgodmpdaaDoorRows.lean that lists a variable, with what it lists TIED to the program's text (the seventh form; the later family's looks); each row that meets fmt, with fmt's text TOLD by the authors' own Lean function (tested against real Go, not proved from fmt's source: count such statements apart). THE CARD IS WHAT COUNTS. Prove the row's statement (the work); the ties are given (YteppocjgodmpdaaDoorTie.lean); close each card by the builder's one call (the guide's Derived/Test/ToyasCard.lean, 'card_holds'). Laid BY PROGRAM, IN A SANDBOX (cutbox-door.mjs). By AI agents, Wed Nov 11 2026. No macro, syntax, notation, axiom, sorry.
-/
import Derived.Test.YteppocjgodmpdaaDoorRows
import GoSem.ClaimSeven
namespace Go.Proofs.YteppocjgodmpdaaDoor
namespace Rows

/-- THE TIED CARD OF 'wristbandlaw13.BarsMend'. -/
def barsMendCard : Claim7 := { stood := { row := barsMendRow, standIns := [], harness := (true, "19b57d9ddcdab61f311cdaa6f220001258cc63f88d0424b37630661cd7753fcf"), looks := true }, kinds := [], alts := [], laidByText := true, laidKinds := [.handle], laidTests := true, laidLooks := .later }
def BarsMendCardSaid : Prop := Claim7.holds Tryd.pinned (.plain (OpenSpec.ofChange barsMendSpec)) barsMendCard

/-- THE TIED CARD OF 'wristbandlaw13.BarsBack'. -/
def barsBackCard : Claim7 := { stood := { row := barsBackRow, standIns := [], harness := (true, "19b57d9ddcdab61f311cdaa6f220001258cc63f88d0424b37630661cd7753fcf"), looks := true }, kinds := [], alts := [], laidByText := true, laidKinds := [.handle], laidTests := true, laidLooks := .later }
def BarsBackCardSaid : Prop := Claim7.holds Tryd.pinned (.plain (OpenSpec.ofChange barsBackSpec)) barsBackCard

/-- THE SECOND FORM's CARD OF 'wristbandlaw13.BarsMend'. -/
def barsMendUptoCard : Claim7 := { stood := { row := barsMendUptoRow, standIns := [], harness := (true, "19b57d9ddcdab61f311cdaa6f220001258cc63f88d0424b37630661cd7753fcf"), looks := true }, kinds := [], alts := [], laidByText := true, laidKinds := [.handle], laidTests := true, laidLooks := .later }
def BarsMendUptoCardSaid : Prop := Claim7.holds Tryd.pinned (.plain (OpenSpec.upto barsMendSpec)) barsMendUptoCard

/-- THE SECOND FORM's CARD OF 'wristbandlaw13.BarsBack'. -/
def barsBackUptoCard : Claim7 := { stood := { row := barsBackUptoRow, standIns := [], harness := (true, "19b57d9ddcdab61f311cdaa6f220001258cc63f88d0424b37630661cd7753fcf"), looks := true }, kinds := [], alts := [], laidByText := true, laidKinds := [.handle], laidTests := true, laidLooks := .later }
def BarsBackUptoCardSaid : Prop := Claim7.holds Tryd.pinned (.plain (OpenSpec.upto barsBackSpec)) barsBackUptoCard
end Rows
end Go.Proofs.YteppocjgodmpdaaDoor
