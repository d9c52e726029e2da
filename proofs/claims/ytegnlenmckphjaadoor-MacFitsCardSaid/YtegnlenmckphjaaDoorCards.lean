/-
  DERIVED. GIVEN WITH THE SEED: THE CARDS: each row of YtegnlenmckphjaaDoorRows.lean that lists a variable, with what it lists TIED to the program's text (the seventh form; the later family's looks); each row that meets fmt, with fmt's text TOLD by the authors' own Lean function (tested against real Go, not proved from fmt's source: count such statements apart). THE CARD IS WHAT COUNTS. Prove the row's statement (the work); the ties are given (YtegnlenmckphjaaDoorTie.lean); close each card by the builder's one call (the guide's Derived/Test/ToyasCard.lean, 'card_holds'). Laid BY PROGRAM, IN A SANDBOX (cutbox-door.mjs). By AI agents, Wed Nov 11 2026. No macro, syntax, notation, axiom, sorry.
-/
import Derived.Test.YtegnlenmckphjaaDoorRows
import GoSem.ClaimSeven
namespace Go.Proofs.YtegnlenmckphjaaDoor
namespace Rows

/-- THE TIED CARD OF 'wristbandlaw06.MacFits'. -/
def macFitsCard : Claim7 := { stood := { row := macFitsRow, standIns := [], harness := (true, "0388f0071e8ef7f3e44eaa962d985f7749af28e33c6e4b374c70fc5c8e618a2d"), looks := false }, kinds := [], alts := [], laidByText := true, laidKinds := [.data], laidTests := true, laidLooks := .later }
def MacFitsCardSaid : Prop := Claim7.holds Tryd.pinned (.plain (OpenSpec.ofChange macFitsSpec)) macFitsCard

/-- THE SECOND FORM's CARD OF 'wristbandlaw06.MacFits'. -/
def macFitsUptoCard : Claim7 := { stood := { row := macFitsUptoRow, standIns := [], harness := (true, "0388f0071e8ef7f3e44eaa962d985f7749af28e33c6e4b374c70fc5c8e618a2d"), looks := false }, kinds := [], alts := [], laidByText := true, laidKinds := [.data], laidTests := true, laidLooks := .later }
def MacFitsUptoCardSaid : Prop := Claim7.holds Tryd.pinned (.plain (OpenSpec.upto macFitsSpec)) macFitsUptoCard
end Rows
end Go.Proofs.YtegnlenmckphjaaDoor
