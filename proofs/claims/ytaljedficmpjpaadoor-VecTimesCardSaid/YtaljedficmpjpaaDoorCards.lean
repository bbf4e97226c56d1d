/-
  DERIVED. GIVEN WITH THE SEED: THE CARDS: each row of YtaljedficmpjpaaDoorRows.lean that lists a variable, with what it lists TIED to the program's text (the seventh form; the later family's looks); each row that meets fmt, with fmt's text TOLD by the authors' own Lean function (tested against real Go, not proved from fmt's source: count such statements apart). THE CARD IS WHAT COUNTS. Prove the row's statement (the work); the ties are given (YtaljedficmpjpaaDoorTie.lean); close each card by the builder's one call (the guide's Derived/Test/ToyasCard.lean, 'card_holds'). Laid BY PROGRAM, IN A SANDBOX (cutbox-door.mjs). By AI agents, Wed Nov 11 2026. No macro, syntax, notation, axiom, sorry.
-/
import Derived.Test.YtaljedficmpjpaaDoorRows
import GoSem.ClaimSeven
namespace Go.Proofs.YtaljedficmpjpaaDoor
namespace Rows

/-- THE TIED CARD OF 'demesnelaw03.VecSums'. -/
def vecSumsCard : Claim7 := { stood := { row := vecSumsRow, standIns := [], harness := (true, "f555b129319dbb0596391d9b520407132e5f228fe2772ff31780a1c382295df9"), looks := true }, kinds := [], alts := [], laidByText := true, laidKinds := [.data, .data, .data, .data, .sentinel, .sentinel, .pinned], laidTests := true, laidLooks := .later }
def VecSumsCardSaid : Prop := Claim7.holds Tryd.pinned (.plain (OpenSpec.ofChange vecSumsSpec)) vecSumsCard

/-- THE TIED CARD OF 'demesnelaw03.VecFits'. -/
def vecFitsCard : Claim7 := { stood := { row := vecFitsRow, standIns := [], harness := (true, "f555b129319dbb0596391d9b520407132e5f228fe2772ff31780a1c382295df9"), looks := true }, kinds := [], alts := [], laidByText := true, laidKinds := [.data, .data, .data, .data, .sentinel, .sentinel, .pinned], laidTests := true, laidLooks := .later }
def VecFitsCardSaid : Prop := Claim7.holds Tryd.pinned (.plain (OpenSpec.ofChange vecFitsSpec)) vecFitsCard

/-- THE TIED CARD OF 'demesnelaw03.VecOrder'. -/
def vecOrderCard : Claim7 := { stood := { row := vecOrderRow, standIns := [], harness := (true, "f555b129319dbb0596391d9b520407132e5f228fe2772ff31780a1c382295df9"), looks := true }, kinds := [], alts := [], laidByText := true, laidKinds := [.data, .data, .data, .data, .sentinel, .sentinel, .pinned], laidTests := true, laidLooks := .later }
def VecOrderCardSaid : Prop := Claim7.holds Tryd.pinned (.plain (OpenSpec.ofChange vecOrderSpec)) vecOrderCard

/-- THE TIED CARD OF 'demesnelaw03.VecHolds'. -/
def vecHoldsCard : Claim7 := { stood := { row := vecHoldsRow, standIns := [], harness := (true, "f555b129319dbb0596391d9b520407132e5f228fe2772ff31780a1c382295df9"), looks := true }, kinds := [], alts := [], laidByText := true, laidKinds := [.data, .data, .data, .data, .sentinel, .sentinel, .pinned], laidTests := true, laidLooks := .later }
def VecHoldsCardSaid : Prop := Claim7.holds Tryd.pinned (.plain (OpenSpec.ofChange vecHoldsSpec)) vecHoldsCard

/-- THE TIED CARD OF 'demesnelaw03.VecTimes'. -/
def vecTimesCard : Claim7 := { stood := { row := vecTimesRow, standIns := [], harness := (true, "f555b129319dbb0596391d9b520407132e5f228fe2772ff31780a1c382295df9"), looks := true }, kinds := [], alts := [], laidByText := true, laidKinds := [.data, .data, .data, .data, .sentinel, .sentinel, .pinned], laidTests := true, laidLooks := .later }
def VecTimesCardSaid : Prop := Claim7.holds Tryd.pinned (.plain (OpenSpec.ofChange vecTimesSpec)) vecTimesCard

/-- THE SECOND FORM's CARD OF 'demesnelaw03.VecSums'. -/
def vecSumsUptoCard : Claim7 := { stood := { row := vecSumsUptoRow, standIns := [], harness := (true, "f555b129319dbb0596391d9b520407132e5f228fe2772ff31780a1c382295df9"), looks := true }, kinds := [], alts := [], laidByText := true, laidKinds := [.data, .data, .data, .data, .sentinel, .sentinel, .pinned], laidTests := true, laidLooks := .later }
def VecSumsUptoCardSaid : Prop := Claim7.holds Tryd.pinned (.plain (OpenSpec.upto vecSumsSpec)) vecSumsUptoCard

/-- THE SECOND FORM's CARD OF 'demesnelaw03.VecFits'. -/
def vecFitsUptoCard : Claim7 := { stood := { row := vecFitsUptoRow, standIns := [], harness := (true, "f555b129319dbb0596391d9b520407132e5f228fe2772ff31780a1c382295df9"), looks := true }, kinds := [], alts := [], laidByText := true, laidKinds := [.data, .data, .data, .data, .sentinel, .sentinel, .pinned], laidTests := true, laidLooks := .later }
def VecFitsUptoCardSaid : Prop := Claim7.holds Tryd.pinned (.plain (OpenSpec.upto vecFitsSpec)) vecFitsUptoCard

/-- THE SECOND FORM's CARD OF 'demesnelaw03.VecOrder'. -/
def vecOrderUptoCard : Claim7 := { stood := { row := vecOrderUptoRow, standIns := [], harness := (true, "f555b129319dbb0596391d9b520407132e5f228fe2772ff31780a1c382295df9"), looks := true }, kinds := [], alts := [], laidByText := true, laidKinds := [.data, .data, .data, .data, .sentinel, .sentinel, .pinned], laidTests := true, laidLooks := .later }
def VecOrderUptoCardSaid : Prop := Claim7.holds Tryd.pinned (.plain (OpenSpec.upto vecOrderSpec)) vecOrderUptoCard

/-- THE SECOND FORM's CARD OF 'demesnelaw03.VecHolds'. -/
def vecHoldsUptoCard : Claim7 := { stood := { row := vecHoldsUptoRow, standIns := [], harness := (true, "f555b129319dbb0596391d9b520407132e5f228fe2772ff31780a1c382295df9"), looks := true }, kinds := [], alts := [], laidByText := true, laidKinds := [.data, .data, .data, .data, .sentinel, .sentinel, .pinned], laidTests := true, laidLooks := .later }
def VecHoldsUptoCardSaid : Prop := Claim7.holds Tryd.pinned (.plain (OpenSpec.upto vecHoldsSpec)) vecHoldsUptoCard

/-- THE SECOND FORM's CARD OF 'demesnelaw03.VecTimes'. -/
def vecTimesUptoCard : Claim7 := { stood := { row := vecTimesUptoRow, standIns := [], harness := (true, "f555b129319dbb0596391d9b520407132e5f228fe2772ff31780a1c382295df9"), looks := true }, kinds := [], alts := [], laidByText := true, laidKinds := [.data, .data, .data, .data, .sentinel, .sentinel, .pinned], laidTests := true, laidLooks := .later }
def VecTimesUptoCardSaid : Prop := Claim7.holds Tryd.pinned (.plain (OpenSpec.upto vecTimesSpec)) vecTimesUptoCard
end Rows
end Go.Proofs.YtaljedficmpjpaaDoor
