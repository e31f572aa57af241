/-
  DERIVED. GIVEN WITH THE SEED: THE CARDS: each row of YtlhgjicichjbgaaGreatDoorRows.lean that lists a variable, with what it lists TIED to the program's text (the seventh form; the later family's looks); each row that meets fmt, with fmt's text TOLD by the authors' own Lean function (tested against real Go, not proved from fmt's source: count such statements apart). THE CARD IS WHAT COUNTS. Prove the row's statement (the work); the ties are given (YtlhgjicichjbgaaGreatDoorTie.lean); close each card by the builder's one call (the guide's Derived/Test/ToyasCard.lean, 'card_holds'). Laid BY PROGRAM, IN A SANDBOX (cutbox-door.mjs). By AI agents, Wed Nov 11 2026. No macro, syntax, notation, axiom, sorry.
-/
import Derived.Test.YtlhgjicichjbgaaGreatDoorRows
import GoSem.ClaimSeven
namespace Go.Proofs.YtlhgjicichjbgaaGreatDoor
namespace Rows

/-- THE TIED CARD OF 'wicketlaw11.ClientNames'. -/
def clientNamesCard : Claim7 := { stood := { row := clientNamesRow, standIns := [], harness := (true, "525bfea2be54769606ccc2830ac4ce375cd3d50e4a65ad1e512fcf313a3f7b84"), looks := false }, kinds := [], alts := [], laidByText := true, laidKinds := [.data, .pinned], laidTests := true, laidLooks := .later }
def ClientNamesCardSaid : Prop := Claim7.holds Tryz.pinned (.plain (OpenSpec.ofChange clientNamesSpec)) clientNamesCard

/-- THE TIED CARD OF 'wicketlaw11.ClientChecks'. -/
def clientChecksCard : Claim7 := { stood := { row := clientChecksRow, standIns := [], harness := (true, "525bfea2be54769606ccc2830ac4ce375cd3d50e4a65ad1e512fcf313a3f7b84"), looks := false }, kinds := [], alts := [], laidByText := true, laidKinds := [.data, .pinned], laidTests := true, laidLooks := .later }
def ClientChecksCardSaid : Prop := Claim7.holds Tryz.pinned (.plain (OpenSpec.ofChange clientChecksSpec)) clientChecksCard

/-- THE TIED CARD OF 'wicketlaw11.ClientParses'. -/
def clientParsesCard : Claim7 := { stood := { row := clientParsesRow, standIns := [], harness := (true, "525bfea2be54769606ccc2830ac4ce375cd3d50e4a65ad1e512fcf313a3f7b84"), looks := false }, kinds := [], alts := [], laidByText := true, laidKinds := [.data, .pinned], laidTests := true, laidLooks := .later }
def ClientParsesCardSaid : Prop := Claim7.holds Tryz.pinned (.plain (OpenSpec.ofChange clientParsesSpec)) clientParsesCard

/-- THE TIED CARD OF 'wicketlaw11.ClientPrints'. -/
def clientPrintsCard : Claim7 := { stood := { row := clientPrintsRow, standIns := [], harness := (true, "525bfea2be54769606ccc2830ac4ce375cd3d50e4a65ad1e512fcf313a3f7b84"), looks := false }, kinds := [], alts := [], laidByText := true, laidKinds := [.data, .data, .pinned], laidTests := true, laidLooks := .later }
def ClientPrintsCardSaid : Prop := Claim7.holds Tryz.pinned (.plain (OpenSpec.ofChange clientPrintsSpec)) clientPrintsCard

/-- THE TIED CARD OF 'wicketlaw11.ClientFinds'. -/
def clientFindsCard : Claim7 := { stood := { row := clientFindsRow, standIns := [], harness := (true, "525bfea2be54769606ccc2830ac4ce375cd3d50e4a65ad1e512fcf313a3f7b84"), looks := false }, kinds := [], alts := [], laidByText := true, laidKinds := [.data, .pinned], laidTests := true, laidLooks := .later }
def ClientFindsCardSaid : Prop := Claim7.holds Tryz.pinned (.plain (OpenSpec.ofChange clientFindsSpec)) clientFindsCard

/-- THE TIED CARD OF 'wicketlaw11.ClientBasics'. -/
def clientBasicsCard : Claim7 := { stood := { row := clientBasicsRow, standIns := [], harness := (true, "525bfea2be54769606ccc2830ac4ce375cd3d50e4a65ad1e512fcf313a3f7b84"), looks := false }, kinds := [], alts := [], laidByText := true, laidKinds := [.data, .pinned], laidTests := true, laidLooks := .later }
def ClientBasicsCardSaid : Prop := Claim7.holds Tryz.pinned (.plain (OpenSpec.ofChange clientBasicsSpec)) clientBasicsCard

/-- THE SECOND FORM's CARD OF 'wicketlaw11.ClientNames'. -/
def clientNamesUptoCard : Claim7 := { stood := { row := clientNamesUptoRow, standIns := [], harness := (true, "525bfea2be54769606ccc2830ac4ce375cd3d50e4a65ad1e512fcf313a3f7b84"), looks := false }, kinds := [], alts := [], laidByText := true, laidKinds := [.data, .pinned], laidTests := true, laidLooks := .later }
def ClientNamesUptoCardSaid : Prop := Claim7.holds Tryz.pinned (.plain (OpenSpec.upto clientNamesSpec)) clientNamesUptoCard

/-- THE SECOND FORM's CARD OF 'wicketlaw11.ClientChecks'. -/
def clientChecksUptoCard : Claim7 := { stood := { row := clientChecksUptoRow, standIns := [], harness := (true, "525bfea2be54769606ccc2830ac4ce375cd3d50e4a65ad1e512fcf313a3f7b84"), looks := false }, kinds := [], alts := [], laidByText := true, laidKinds := [.data, .pinned], laidTests := true, laidLooks := .later }
def ClientChecksUptoCardSaid : Prop := Claim7.holds Tryz.pinned (.plain (OpenSpec.upto clientChecksSpec)) clientChecksUptoCard

/-- THE SECOND FORM's CARD OF 'wicketlaw11.ClientParses'. -/
def clientParsesUptoCard : Claim7 := { stood := { row := clientParsesUptoRow, standIns := [], harness := (true, "525bfea2be54769606ccc2830ac4ce375cd3d50e4a65ad1e512fcf313a3f7b84"), looks := false }, kinds := [], alts := [], laidByText := true, laidKinds := [.data, .pinned], laidTests := true, laidLooks := .later }
def ClientParsesUptoCardSaid : Prop := Claim7.holds Tryz.pinned (.plain (OpenSpec.upto clientParsesSpec)) clientParsesUptoCard

/-- THE SECOND FORM's CARD OF 'wicketlaw11.ClientPrints'. -/
def clientPrintsUptoCard : Claim7 := { stood := { row := clientPrintsUptoRow, standIns := [], harness := (true, "525bfea2be54769606ccc2830ac4ce375cd3d50e4a65ad1e512fcf313a3f7b84"), looks := false }, kinds := [], alts := [], laidByText := true, laidKinds := [.data, .data, .pinned], laidTests := true, laidLooks := .later }
def ClientPrintsUptoCardSaid : Prop := Claim7.holds Tryz.pinned (.plain (OpenSpec.upto clientPrintsSpec)) clientPrintsUptoCard

/-- THE SECOND FORM's CARD OF 'wicketlaw11.ClientFinds'. -/
def clientFindsUptoCard : Claim7 := { stood := { row := clientFindsUptoRow, standIns := [], harness := (true, "525bfea2be54769606ccc2830ac4ce375cd3d50e4a65ad1e512fcf313a3f7b84"), looks := false }, kinds := [], alts := [], laidByText := true, laidKinds := [.data, .pinned], laidTests := true, laidLooks := .later }
def ClientFindsUptoCardSaid : Prop := Claim7.holds Tryz.pinned (.plain (OpenSpec.upto clientFindsSpec)) clientFindsUptoCard

/-- THE SECOND FORM's CARD OF 'wicketlaw11.ClientBasics'. -/
def clientBasicsUptoCard : Claim7 := { stood := { row := clientBasicsUptoRow, standIns := [], harness := (true, "525bfea2be54769606ccc2830ac4ce375cd3d50e4a65ad1e512fcf313a3f7b84"), looks := false }, kinds := [], alts := [], laidByText := true, laidKinds := [.data, .pinned], laidTests := true, laidLooks := .later }
def ClientBasicsUptoCardSaid : Prop := Claim7.holds Tryz.pinned (.plain (OpenSpec.upto clientBasicsSpec)) clientBasicsUptoCard
end Rows
end Go.Proofs.YtlhgjicichjbgaaGreatDoor
