/-
  DERIVED. GIVEN WITH THE SEED: THE CARDS: each row of YthopegokjbibmaaDoorRows.lean that lists a variable, with what it lists TIED to the program's text (the seventh form; the later family's looks); each row that meets fmt, with fmt's text TOLD by the authors' own Lean function (tested against real Go, not proved from fmt's source: count such statements apart). THE CARD IS WHAT COUNTS. Prove the row's statement (the work); the ties are given (YthopegokjbibmaaDoorTie.lean); close each card by the builder's one call (the guide's Derived/Test/ToyasCard.lean, 'card_holds'). Laid BY PROGRAM, IN A SANDBOX (cutbox-door.mjs). By AI agents, Wed Nov 11 2026. No macro, syntax, notation, axiom, sorry.
-/
import Derived.Test.YthopegokjbibmaaDoorRows
import GoSem.ClaimSeven
namespace Go.Proofs.YthopegokjbibmaaDoor
namespace Rows

/-- THE TIED CARD OF 'demesnelaw07.MacTells'. -/
def macTellsCard : Claim7 := { stood := { row := macTellsRow, standIns := [], harness := (true, "5fb76e9c9e68c86a216506cd86c2eaa1beeb6678b78a01bc2f75bc022eeab42d"), looks := false }, kinds := [], alts := [], laidByText := true, laidKinds := [.data, .data], laidTests := true, laidLooks := .later }
def MacTellsCardSaid : Prop := Claim7.holds Tryd.pinned (.plain (OpenSpec.ofChange macTellsSpec)) macTellsCard

/-- THE TIED CARD OF 'demesnelaw07.MacChecks'. -/
def macChecksCard : Claim7 := { stood := { row := macChecksRow, standIns := [], harness := (true, "5fb76e9c9e68c86a216506cd86c2eaa1beeb6678b78a01bc2f75bc022eeab42d"), looks := false }, kinds := [], alts := [], laidByText := true, laidKinds := [.data, .data], laidTests := true, laidLooks := .later }
def MacChecksCardSaid : Prop := Claim7.holds Tryd.pinned (.plain (OpenSpec.ofChange macChecksSpec)) macChecksCard

/-- THE TIED CARD OF 'demesnelaw07.MacNarrows'. -/
def macNarrowsCard : Claim7 := { stood := { row := macNarrowsRow, standIns := [], harness := (true, "5fb76e9c9e68c86a216506cd86c2eaa1beeb6678b78a01bc2f75bc022eeab42d"), looks := false }, kinds := [], alts := [], laidByText := true, laidKinds := [.data, .data], laidTests := true, laidLooks := .later }
def MacNarrowsCardSaid : Prop := Claim7.holds Tryd.pinned (.plain (OpenSpec.ofChange macNarrowsSpec)) macNarrowsCard

/-- THE TIED CARD OF 'demesnelaw07.MacBack'. -/
def macBackCard : Claim7 := { stood := { row := macBackRow, standIns := [], harness := (true, "5fb76e9c9e68c86a216506cd86c2eaa1beeb6678b78a01bc2f75bc022eeab42d"), looks := false }, kinds := [], alts := [], laidByText := true, laidKinds := [.data, .data], laidTests := true, laidLooks := .later }
def MacBackCardSaid : Prop := Claim7.holds Tryd.pinned (.plain (OpenSpec.ofChange macBackSpec)) macBackCard

/-- THE TIED CARD OF 'demesnelaw07.MacOnce'. -/
def macOnceCard : Claim7 := { stood := { row := macOnceRow, standIns := [], harness := (true, "5fb76e9c9e68c86a216506cd86c2eaa1beeb6678b78a01bc2f75bc022eeab42d"), looks := false }, kinds := [], alts := [], laidByText := true, laidKinds := [.data, .data], laidTests := true, laidLooks := .later }
def MacOnceCardSaid : Prop := Claim7.holds Tryd.pinned (.plain (OpenSpec.ofChange macOnceSpec)) macOnceCard

/-- THE TIED CARD OF 'demesnelaw07.MacShared'. -/
def macSharedCard : Claim7 := { stood := { row := macSharedRow, standIns := [], harness := (true, "5fb76e9c9e68c86a216506cd86c2eaa1beeb6678b78a01bc2f75bc022eeab42d"), looks := false }, kinds := [], alts := [], laidByText := true, laidKinds := [.data, .data], laidTests := true, laidLooks := .later }
def MacSharedCardSaid : Prop := Claim7.holds Tryd.pinned (.plain (OpenSpec.ofChange macSharedSpec)) macSharedCard

/-- THE SECOND FORM's CARD OF 'demesnelaw07.MacTells'. -/
def macTellsUptoCard : Claim7 := { stood := { row := macTellsUptoRow, standIns := [], harness := (true, "5fb76e9c9e68c86a216506cd86c2eaa1beeb6678b78a01bc2f75bc022eeab42d"), looks := false }, kinds := [], alts := [], laidByText := true, laidKinds := [.data, .data], laidTests := true, laidLooks := .later }
def MacTellsUptoCardSaid : Prop := Claim7.holds Tryd.pinned (.plain (OpenSpec.upto macTellsSpec)) macTellsUptoCard

/-- THE SECOND FORM's CARD OF 'demesnelaw07.MacChecks'. -/
def macChecksUptoCard : Claim7 := { stood := { row := macChecksUptoRow, standIns := [], harness := (true, "5fb76e9c9e68c86a216506cd86c2eaa1beeb6678b78a01bc2f75bc022eeab42d"), looks := false }, kinds := [], alts := [], laidByText := true, laidKinds := [.data, .data], laidTests := true, laidLooks := .later }
def MacChecksUptoCardSaid : Prop := Claim7.holds Tryd.pinned (.plain (OpenSpec.upto macChecksSpec)) macChecksUptoCard

/-- THE SECOND FORM's CARD OF 'demesnelaw07.MacNarrows'. -/
def macNarrowsUptoCard : Claim7 := { stood := { row := macNarrowsUptoRow, standIns := [], harness := (true, "5fb76e9c9e68c86a216506cd86c2eaa1beeb6678b78a01bc2f75bc022eeab42d"), looks := false }, kinds := [], alts := [], laidByText := true, laidKinds := [.data, .data], laidTests := true, laidLooks := .later }
def MacNarrowsUptoCardSaid : Prop := Claim7.holds Tryd.pinned (.plain (OpenSpec.upto macNarrowsSpec)) macNarrowsUptoCard

/-- THE SECOND FORM's CARD OF 'demesnelaw07.MacBack'. -/
def macBackUptoCard : Claim7 := { stood := { row := macBackUptoRow, standIns := [], harness := (true, "5fb76e9c9e68c86a216506cd86c2eaa1beeb6678b78a01bc2f75bc022eeab42d"), looks := false }, kinds := [], alts := [], laidByText := true, laidKinds := [.data, .data], laidTests := true, laidLooks := .later }
def MacBackUptoCardSaid : Prop := Claim7.holds Tryd.pinned (.plain (OpenSpec.upto macBackSpec)) macBackUptoCard

/-- THE SECOND FORM's CARD OF 'demesnelaw07.MacOnce'. -/
def macOnceUptoCard : Claim7 := { stood := { row := macOnceUptoRow, standIns := [], harness := (true, "5fb76e9c9e68c86a216506cd86c2eaa1beeb6678b78a01bc2f75bc022eeab42d"), looks := false }, kinds := [], alts := [], laidByText := true, laidKinds := [.data, .data], laidTests := true, laidLooks := .later }
def MacOnceUptoCardSaid : Prop := Claim7.holds Tryd.pinned (.plain (OpenSpec.upto macOnceSpec)) macOnceUptoCard

/-- THE SECOND FORM's CARD OF 'demesnelaw07.MacShared'. -/
def macSharedUptoCard : Claim7 := { stood := { row := macSharedUptoRow, standIns := [], harness := (true, "5fb76e9c9e68c86a216506cd86c2eaa1beeb6678b78a01bc2f75bc022eeab42d"), looks := false }, kinds := [], alts := [], laidByText := true, laidKinds := [.data, .data], laidTests := true, laidLooks := .later }
def MacSharedUptoCardSaid : Prop := Claim7.holds Tryd.pinned (.plain (OpenSpec.upto macSharedSpec)) macSharedUptoCard
end Rows
end Go.Proofs.YthopegokjbibmaaDoor
