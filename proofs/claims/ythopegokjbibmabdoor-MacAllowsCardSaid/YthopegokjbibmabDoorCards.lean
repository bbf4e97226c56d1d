/-
  DERIVED. GIVEN WITH THE SEED: THE CARDS: each row of YthopegokjbibmabDoorRows.lean that lists a variable, with what it lists TIED to the program's text (the seventh form; the later family's looks); each row that meets fmt, with fmt's text TOLD by the authors' own Lean function (tested against real Go, not proved from fmt's source: count such statements apart). THE CARD IS WHAT COUNTS. Prove the row's statement (the work); the ties are given (YthopegokjbibmabDoorTie.lean); close each card by the builder's one call (the guide's Derived/Test/ToyasCard.lean, 'card_holds'). Laid BY PROGRAM, IN A SANDBOX (cutbox-door.mjs). By AI agents, Wed Nov 11 2026. No macro, syntax, notation, axiom, sorry.
-/
import Derived.Test.YthopegokjbibmabDoorRows
import GoSem.ClaimSeven
namespace Go.Proofs.YthopegokjbibmabDoor
namespace Rows

/-- THE TIED CARD OF 'demesnelaw07.MacAllows'. -/
def macAllowsCard : Claim7 := { stood := { row := macAllowsRow, standIns := [], harness := (true, "0067610d6b7a89bf1728c891fbeef1587ad7fd90b25a18b8c1975e72eec6fdc7"), looks := false }, kinds := [], alts := [], laidByText := true, laidKinds := [.data, .data], laidTests := true, laidLooks := .later }
def MacAllowsCardSaid : Prop := Claim7.holds Tryd.pinned (.plain (OpenSpec.ofChange macAllowsSpec)) macAllowsCard

/-- THE SECOND FORM's CARD OF 'demesnelaw07.MacAllows'. -/
def macAllowsUptoCard : Claim7 := { stood := { row := macAllowsUptoRow, standIns := [], harness := (true, "0067610d6b7a89bf1728c891fbeef1587ad7fd90b25a18b8c1975e72eec6fdc7"), looks := false }, kinds := [], alts := [], laidByText := true, laidKinds := [.data, .data], laidTests := true, laidLooks := .later }
def MacAllowsUptoCardSaid : Prop := Claim7.holds Tryd.pinned (.plain (OpenSpec.upto macAllowsSpec)) macAllowsUptoCard
end Rows
end Go.Proofs.YthopegokjbibmabDoor
