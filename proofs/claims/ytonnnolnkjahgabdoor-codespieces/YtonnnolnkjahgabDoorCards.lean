/-
  DERIVED. GIVEN WITH THE SEED: THE CARDS: each row of YtonnnolnkjahgabDoorRows.lean that lists a variable, with what it lists TIED to the program's text (the seventh form; the later family's looks); each row that meets fmt, with fmt's text TOLD by the authors' own Lean function (tested against real Go, not proved from fmt's source: count such statements apart). THE CARD IS WHAT COUNTS. Prove the row's statement (the work); the ties are given (YtonnnolnkjahgabDoorTie.lean); close each card by the builder's one call (the guide's Derived/Test/ToyasCard.lean, 'card_holds'). Laid BY PROGRAM, IN A SANDBOX (cutbox-door.mjs). By AI agents, Wed Nov 11 2026. No macro, syntax, notation, axiom, sorry.
-/
import Derived.Test.YtonnnolnkjahgabDoorRows
import GoSem.ClaimSeven
namespace Go.Proofs.YtonnnolnkjahgabDoor
namespace Rows

/-- THE TIED CARD OF 'wicketlaw09.CodesPieces'. -/
def codesPiecesCard : Claim7 := { stood := { row := codesPiecesRow, standIns := [], harness := (true, "b8dcf430376dda7ccaded9d622469bc7963a255cb63ca84c57d70f1d6a729ab1"), looks := false }, kinds := [], alts := [], laidByText := true, laidKinds := [.data], laidTests := true, laidLooks := .later }
def CodesPiecesCardSaid : Prop := Claim7.holds Tryd.pinned (.plain (OpenSpec.ofChange codesPiecesSpec)) codesPiecesCard

/-- THE TIED CARD OF 'wicketlaw09.CodesApart'. -/
def codesApartCard : Claim7 := { stood := { row := codesApartRow, standIns := [], harness := (true, "b8dcf430376dda7ccaded9d622469bc7963a255cb63ca84c57d70f1d6a729ab1"), looks := false }, kinds := [], alts := [], laidByText := true, laidKinds := [.data], laidTests := true, laidLooks := .later }
def CodesApartCardSaid : Prop := Claim7.holds Tryd.pinned (.plain (OpenSpec.ofChange codesApartSpec)) codesApartCard

/-- THE TIED CARD OF 'wicketlaw09.CodesNil'. -/
def codesNilCard : Claim7 := { stood := { row := codesNilRow, standIns := [], harness := (true, "b8dcf430376dda7ccaded9d622469bc7963a255cb63ca84c57d70f1d6a729ab1"), looks := false }, kinds := [], alts := [], laidByText := true, laidKinds := [.data], laidTests := true, laidLooks := .later }
def CodesNilCardSaid : Prop := Claim7.holds Tryd.pinned (.plain (OpenSpec.ofChange codesNilSpec)) codesNilCard

/-- THE SECOND FORM's CARD OF 'wicketlaw09.CodesPieces'. -/
def codesPiecesUptoCard : Claim7 := { stood := { row := codesPiecesUptoRow, standIns := [], harness := (true, "b8dcf430376dda7ccaded9d622469bc7963a255cb63ca84c57d70f1d6a729ab1"), looks := false }, kinds := [], alts := [], laidByText := true, laidKinds := [.data], laidTests := true, laidLooks := .later }
def CodesPiecesUptoCardSaid : Prop := Claim7.holds Tryd.pinned (.plain (OpenSpec.upto codesPiecesSpec)) codesPiecesUptoCard

/-- THE SECOND FORM's CARD OF 'wicketlaw09.CodesApart'. -/
def codesApartUptoCard : Claim7 := { stood := { row := codesApartUptoRow, standIns := [], harness := (true, "b8dcf430376dda7ccaded9d622469bc7963a255cb63ca84c57d70f1d6a729ab1"), looks := false }, kinds := [], alts := [], laidByText := true, laidKinds := [.data], laidTests := true, laidLooks := .later }
def CodesApartUptoCardSaid : Prop := Claim7.holds Tryd.pinned (.plain (OpenSpec.upto codesApartSpec)) codesApartUptoCard

/-- THE SECOND FORM's CARD OF 'wicketlaw09.CodesNil'. -/
def codesNilUptoCard : Claim7 := { stood := { row := codesNilUptoRow, standIns := [], harness := (true, "b8dcf430376dda7ccaded9d622469bc7963a255cb63ca84c57d70f1d6a729ab1"), looks := false }, kinds := [], alts := [], laidByText := true, laidKinds := [.data], laidTests := true, laidLooks := .later }
def CodesNilUptoCardSaid : Prop := Claim7.holds Tryd.pinned (.plain (OpenSpec.upto codesNilSpec)) codesNilUptoCard
end Rows
end Go.Proofs.YtonnnolnkjahgabDoor
