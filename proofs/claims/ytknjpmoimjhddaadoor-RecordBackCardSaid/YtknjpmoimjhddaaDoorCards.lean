/-
  DERIVED. GIVEN WITH THE SEED: THE CARDS: each row of YtknjpmoimjhddaaDoorRows.lean that lists a variable, with what it lists TIED to the program's text (the seventh form; the later family's looks); each row that meets fmt, with fmt's text TOLD by the authors' own Lean function (tested against real Go, not proved from fmt's source: count such statements apart). THE CARD IS WHAT COUNTS. Prove the row's statement (the work); the ties are given (YtknjpmoimjhddaaDoorTie.lean); close each card by the builder's one call (the guide's Derived/Test/ToyasCard.lean, 'card_holds'). Laid BY PROGRAM, IN A SANDBOX (cutbox-door.mjs). By AI agents, Wed Nov 11 2026. No macro, syntax, notation, axiom, sorry.
-/
import Derived.Test.YtknjpmoimjhddaaDoorRows
import GoSem.ClaimSeven
namespace Go.Proofs.YtknjpmoimjhddaaDoor
namespace Rows

/-- THE TIED CARD OF 'wristbandlaw14.RecordBack'. -/
def recordBackCard : Claim7 := { stood := { row := recordBackRow, standIns := [], harness := (true, "dea860efb34b752cf7d6391dbe6edbd01f96b7a28337a7a49813254f9beb92a4"), looks := true }, kinds := [], alts := [], laidByText := true, laidKinds := [.handle], laidTests := true, laidLooks := .later }
def RecordBackCardSaid : Prop := Claim7.holds Tryd.pinned (.plain (OpenSpec.ofChange recordBackSpec)) recordBackCard

/-- THE TIED CARD OF 'wristbandlaw14.RecordTurned'. -/
def recordTurnedCard : Claim7 := { stood := { row := recordTurnedRow, standIns := [], harness := (true, "dea860efb34b752cf7d6391dbe6edbd01f96b7a28337a7a49813254f9beb92a4"), looks := true }, kinds := [], alts := [], laidByText := true, laidKinds := [.handle], laidTests := true, laidLooks := .later }
def RecordTurnedCardSaid : Prop := Claim7.holds Tryd.pinned (.plain (OpenSpec.ofChange recordTurnedSpec)) recordTurnedCard

/-- THE TIED CARD OF 'wristbandlaw13.BarsMend'. -/
def barsMendCard : Claim7 := { stood := { row := barsMendRow, standIns := [], harness := (true, "dea860efb34b752cf7d6391dbe6edbd01f96b7a28337a7a49813254f9beb92a4"), looks := true }, kinds := [], alts := [], laidByText := true, laidKinds := [.handle], laidTests := true, laidLooks := .later }
def BarsMendCardSaid : Prop := Claim7.holds Tryd.pinned (.plain (OpenSpec.ofChange barsMendSpec)) barsMendCard

/-- THE TIED CARD OF 'wristbandlaw13.BarsBack'. -/
def barsBackCard : Claim7 := { stood := { row := barsBackRow, standIns := [], harness := (true, "dea860efb34b752cf7d6391dbe6edbd01f96b7a28337a7a49813254f9beb92a4"), looks := true }, kinds := [], alts := [], laidByText := true, laidKinds := [.handle], laidTests := true, laidLooks := .later }
def BarsBackCardSaid : Prop := Claim7.holds Tryd.pinned (.plain (OpenSpec.ofChange barsBackSpec)) barsBackCard

/-- THE SECOND FORM's CARD OF 'wristbandlaw14.RecordBack'. -/
def recordBackUptoCard : Claim7 := { stood := { row := recordBackUptoRow, standIns := [], harness := (true, "dea860efb34b752cf7d6391dbe6edbd01f96b7a28337a7a49813254f9beb92a4"), looks := true }, kinds := [], alts := [], laidByText := true, laidKinds := [.handle], laidTests := true, laidLooks := .later }
def RecordBackUptoCardSaid : Prop := Claim7.holds Tryd.pinned (.plain (OpenSpec.upto recordBackSpec)) recordBackUptoCard

/-- THE SECOND FORM's CARD OF 'wristbandlaw14.RecordTurned'. -/
def recordTurnedUptoCard : Claim7 := { stood := { row := recordTurnedUptoRow, standIns := [], harness := (true, "dea860efb34b752cf7d6391dbe6edbd01f96b7a28337a7a49813254f9beb92a4"), looks := true }, kinds := [], alts := [], laidByText := true, laidKinds := [.handle], laidTests := true, laidLooks := .later }
def RecordTurnedUptoCardSaid : Prop := Claim7.holds Tryd.pinned (.plain (OpenSpec.upto recordTurnedSpec)) recordTurnedUptoCard

/-- THE SECOND FORM's CARD OF 'wristbandlaw13.BarsMend'. -/
def barsMendUptoCard : Claim7 := { stood := { row := barsMendUptoRow, standIns := [], harness := (true, "dea860efb34b752cf7d6391dbe6edbd01f96b7a28337a7a49813254f9beb92a4"), looks := true }, kinds := [], alts := [], laidByText := true, laidKinds := [.handle], laidTests := true, laidLooks := .later }
def BarsMendUptoCardSaid : Prop := Claim7.holds Tryd.pinned (.plain (OpenSpec.upto barsMendSpec)) barsMendUptoCard

/-- THE SECOND FORM's CARD OF 'wristbandlaw13.BarsBack'. -/
def barsBackUptoCard : Claim7 := { stood := { row := barsBackUptoRow, standIns := [], harness := (true, "dea860efb34b752cf7d6391dbe6edbd01f96b7a28337a7a49813254f9beb92a4"), looks := true }, kinds := [], alts := [], laidByText := true, laidKinds := [.handle], laidTests := true, laidLooks := .later }
def BarsBackUptoCardSaid : Prop := Claim7.holds Tryd.pinned (.plain (OpenSpec.upto barsBackSpec)) barsBackUptoCard
end Rows
end Go.Proofs.YtknjpmoimjhddaaDoor
