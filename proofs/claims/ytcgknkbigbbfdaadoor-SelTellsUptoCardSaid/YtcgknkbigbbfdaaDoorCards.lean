/-
  DERIVED. GIVEN WITH THE SEED: THE CARDS: each row of YtcgknkbigbbfdaaDoorRows.lean that lists a variable, with what it lists TIED to the program's text (the seventh form; the later family's looks); each row that meets fmt, with fmt's text TOLD by the authors' own Lean function (tested against real Go, not proved from fmt's source: count such statements apart). THE CARD IS WHAT COUNTS. Prove the row's statement (the work); the ties are given (YtcgknkbigbbfdaaDoorTie.lean); close each card by the builder's one call (the guide's Derived/Test/ToyasCard.lean, 'card_holds'). Laid BY PROGRAM, IN A SANDBOX (cutbox-door.mjs). By AI agents, Wed Nov 11 2026. No macro, syntax, notation, axiom, sorry.
-/
import Derived.Test.YtcgknkbigbbfdaaDoorRows
import GoSem.ClaimSeven
namespace Go.Proofs.YtcgknkbigbbfdaaDoor
namespace Rows

/-- THE TIED CARD OF 'demesnelaw05.SelTells'. -/
def selTellsCard : Claim7 := { stood := { row := selTellsRow, standIns := [], harness := (true, "9471ac4a3af66d1fbf0d7c90094077bef149f79cde8263d3be98170b66b3faa2"), looks := true }, kinds := [], alts := [], laidByText := true, laidKinds := [.data, .sentinel, .pinned], laidTests := true, laidLooks := .later }
def SelTellsCardSaid : Prop := Claim7.holds Tryd.pinned (.plain (OpenSpec.ofChange selTellsSpec)) selTellsCard

/-- THE TIED CARD OF 'demesnelaw05.SelBack'. -/
def selBackCard : Claim7 := { stood := { row := selBackRow, standIns := [], harness := (true, "9471ac4a3af66d1fbf0d7c90094077bef149f79cde8263d3be98170b66b3faa2"), looks := true }, kinds := [], alts := [], laidByText := true, laidKinds := [.data, .sentinel, .pinned], laidTests := true, laidLooks := .later }
def SelBackCardSaid : Prop := Claim7.holds Tryd.pinned (.plain (OpenSpec.ofChange selBackSpec)) selBackCard

/-- THE TIED CARD OF 'demesnelaw05.SelMatches'. -/
def selMatchesCard : Claim7 := { stood := { row := selMatchesRow, standIns := [], harness := (true, "9471ac4a3af66d1fbf0d7c90094077bef149f79cde8263d3be98170b66b3faa2"), looks := true }, kinds := [], alts := [], laidByText := true, laidKinds := [.data, .sentinel, .pinned], laidTests := true, laidLooks := .later }
def SelMatchesCardSaid : Prop := Claim7.holds Tryd.pinned (.plain (OpenSpec.ofChange selMatchesSpec)) selMatchesCard

/-- THE TIED CARD OF 'demesnelaw05.SelTurns'. -/
def selTurnsCard : Claim7 := { stood := { row := selTurnsRow, standIns := [], harness := (true, "9471ac4a3af66d1fbf0d7c90094077bef149f79cde8263d3be98170b66b3faa2"), looks := true }, kinds := [], alts := [], laidByText := true, laidKinds := [.data, .sentinel, .pinned], laidTests := true, laidLooks := .later }
def SelTurnsCardSaid : Prop := Claim7.holds Tryd.pinned (.plain (OpenSpec.ofChange selTurnsSpec)) selTurnsCard

/-- THE TIED CARD OF 'demesnelaw05.SelLabels'. -/
def selLabelsCard : Claim7 := { stood := { row := selLabelsRow, standIns := [], harness := (true, "9471ac4a3af66d1fbf0d7c90094077bef149f79cde8263d3be98170b66b3faa2"), looks := true }, kinds := [], alts := [], laidByText := true, laidKinds := [.data, .sentinel, .pinned], laidTests := true, laidLooks := .later }
def SelLabelsCardSaid : Prop := Claim7.holds Tryd.pinned (.plain (OpenSpec.ofChange selLabelsSpec)) selLabelsCard

/-- THE TIED CARD OF 'demesnelaw05.SelOnce'. -/
def selOnceCard : Claim7 := { stood := { row := selOnceRow, standIns := [], harness := (true, "9471ac4a3af66d1fbf0d7c90094077bef149f79cde8263d3be98170b66b3faa2"), looks := true }, kinds := [], alts := [], laidByText := true, laidKinds := [.data, .sentinel, .pinned], laidTests := true, laidLooks := .later }
def SelOnceCardSaid : Prop := Claim7.holds Tryd.pinned (.plain (OpenSpec.ofChange selOnceSpec)) selOnceCard

/-- THE SECOND FORM's CARD OF 'demesnelaw05.SelTells'. -/
def selTellsUptoCard : Claim7 := { stood := { row := selTellsUptoRow, standIns := [], harness := (true, "9471ac4a3af66d1fbf0d7c90094077bef149f79cde8263d3be98170b66b3faa2"), looks := true }, kinds := [], alts := [], laidByText := true, laidKinds := [.data, .sentinel, .pinned], laidTests := true, laidLooks := .later }
def SelTellsUptoCardSaid : Prop := Claim7.holds Tryd.pinned (.plain (OpenSpec.upto selTellsSpec)) selTellsUptoCard

/-- THE SECOND FORM's CARD OF 'demesnelaw05.SelBack'. -/
def selBackUptoCard : Claim7 := { stood := { row := selBackUptoRow, standIns := [], harness := (true, "9471ac4a3af66d1fbf0d7c90094077bef149f79cde8263d3be98170b66b3faa2"), looks := true }, kinds := [], alts := [], laidByText := true, laidKinds := [.data, .sentinel, .pinned], laidTests := true, laidLooks := .later }
def SelBackUptoCardSaid : Prop := Claim7.holds Tryd.pinned (.plain (OpenSpec.upto selBackSpec)) selBackUptoCard

/-- THE SECOND FORM's CARD OF 'demesnelaw05.SelMatches'. -/
def selMatchesUptoCard : Claim7 := { stood := { row := selMatchesUptoRow, standIns := [], harness := (true, "9471ac4a3af66d1fbf0d7c90094077bef149f79cde8263d3be98170b66b3faa2"), looks := true }, kinds := [], alts := [], laidByText := true, laidKinds := [.data, .sentinel, .pinned], laidTests := true, laidLooks := .later }
def SelMatchesUptoCardSaid : Prop := Claim7.holds Tryd.pinned (.plain (OpenSpec.upto selMatchesSpec)) selMatchesUptoCard

/-- THE SECOND FORM's CARD OF 'demesnelaw05.SelTurns'. -/
def selTurnsUptoCard : Claim7 := { stood := { row := selTurnsUptoRow, standIns := [], harness := (true, "9471ac4a3af66d1fbf0d7c90094077bef149f79cde8263d3be98170b66b3faa2"), looks := true }, kinds := [], alts := [], laidByText := true, laidKinds := [.data, .sentinel, .pinned], laidTests := true, laidLooks := .later }
def SelTurnsUptoCardSaid : Prop := Claim7.holds Tryd.pinned (.plain (OpenSpec.upto selTurnsSpec)) selTurnsUptoCard

/-- THE SECOND FORM's CARD OF 'demesnelaw05.SelLabels'. -/
def selLabelsUptoCard : Claim7 := { stood := { row := selLabelsUptoRow, standIns := [], harness := (true, "9471ac4a3af66d1fbf0d7c90094077bef149f79cde8263d3be98170b66b3faa2"), looks := true }, kinds := [], alts := [], laidByText := true, laidKinds := [.data, .sentinel, .pinned], laidTests := true, laidLooks := .later }
def SelLabelsUptoCardSaid : Prop := Claim7.holds Tryd.pinned (.plain (OpenSpec.upto selLabelsSpec)) selLabelsUptoCard

/-- THE SECOND FORM's CARD OF 'demesnelaw05.SelOnce'. -/
def selOnceUptoCard : Claim7 := { stood := { row := selOnceUptoRow, standIns := [], harness := (true, "9471ac4a3af66d1fbf0d7c90094077bef149f79cde8263d3be98170b66b3faa2"), looks := true }, kinds := [], alts := [], laidByText := true, laidKinds := [.data, .sentinel, .pinned], laidTests := true, laidLooks := .later }
def SelOnceUptoCardSaid : Prop := Claim7.holds Tryd.pinned (.plain (OpenSpec.upto selOnceSpec)) selOnceUptoCard
end Rows
end Go.Proofs.YtcgknkbigbbfdaaDoor
