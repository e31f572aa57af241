/-
  DERIVED. GIVEN WITH THE SEED: THE CARDS: each row of YtonnnolnkjahgaaDoorRows.lean that lists a variable, with what it lists TIED to the program's text (the seventh form; the later family's looks); each row that meets fmt, with fmt's text TOLD by the authors' own Lean function (tested against real Go, not proved from fmt's source: count such statements apart). THE CARD IS WHAT COUNTS. Prove the row's statement (the work); the ties are given (YtonnnolnkjahgaaDoorTie.lean); close each card by the builder's one call (the guide's Derived/Test/ToyasCard.lean, 'card_holds'). Laid BY PROGRAM, IN A SANDBOX (cutbox-door.mjs). By AI agents, Wed Nov 11 2026. No macro, syntax, notation, axiom, sorry.
-/
import Derived.Test.YtonnnolnkjahgaaDoorRows
import GoSem.ClaimSeven
namespace Go.Proofs.YtonnnolnkjahgaaDoor
namespace Rows

/-- THE TIED CARD OF 'wicketlaw09.CodesNames'. -/
def codesNamesCard : Claim7 := { stood := { row := codesNamesRow, standIns := [], harness := (true, "412ca82f3beadb44a09ba79629e090b454625917c82b755fb7e9d593d2597222"), looks := false }, kinds := [], alts := [], laidByText := true, laidKinds := [.data], laidTests := true, laidLooks := .later }
def CodesNamesCardSaid : Prop := Claim7.holds Tryd.pinned (.plain (OpenSpec.ofChange codesNamesSpec)) codesNamesCard

/-- THE TIED CARD OF 'wicketlaw09.CodesDraws'. -/
def codesDrawsCard : Claim7 := { stood := { row := codesDrawsRow, standIns := [], harness := (true, "412ca82f3beadb44a09ba79629e090b454625917c82b755fb7e9d593d2597222"), looks := false }, kinds := [], alts := [], laidByText := true, laidKinds := [.data], laidTests := true, laidLooks := .later }
def CodesDrawsCardSaid : Prop := Claim7.holds Tryd.pinned (.plain (OpenSpec.ofChange codesDrawsSpec)) codesDrawsCard

/-- THE TIED CARD OF 'wicketlaw09.CodesShows'. -/
def codesShowsCard : Claim7 := { stood := { row := codesShowsRow, standIns := [], harness := (true, "412ca82f3beadb44a09ba79629e090b454625917c82b755fb7e9d593d2597222"), looks := false }, kinds := [], alts := [], laidByText := true, laidKinds := [.data], laidTests := true, laidLooks := .later }
def CodesShowsCardSaid : Prop := Claim7.holds Tryd.pinned (.plain (OpenSpec.ofChange codesShowsSpec)) codesShowsCard

/-- THE TIED CARD OF 'wicketlaw09.CodesHandles'. -/
def codesHandlesCard : Claim7 := { stood := { row := codesHandlesRow, standIns := [], harness := (true, "412ca82f3beadb44a09ba79629e090b454625917c82b755fb7e9d593d2597222"), looks := false }, kinds := [], alts := [], laidByText := true, laidKinds := [.data, .data, .data], laidTests := true, laidLooks := .later }
def CodesHandlesCardSaid : Prop := Claim7.holds Tryd.pinned (.plain (OpenSpec.ofChange codesHandlesSpec)) codesHandlesCard

/-- THE TIED CARD OF 'wicketlaw09.CodesTyped'. -/
def codesTypedCard : Claim7 := { stood := { row := codesTypedRow, standIns := [], harness := (true, "412ca82f3beadb44a09ba79629e090b454625917c82b755fb7e9d593d2597222"), looks := false }, kinds := [], alts := [], laidByText := true, laidKinds := [.data], laidTests := true, laidLooks := .later }
def CodesTypedCardSaid : Prop := Claim7.holds Tryd.pinned (.plain (OpenSpec.ofChange codesTypedSpec)) codesTypedCard

/-- THE TIED CARD OF 'wicketlaw09.CodesAll'. -/
def codesAllCard : Claim7 := { stood := { row := codesAllRow, standIns := [], harness := (true, "412ca82f3beadb44a09ba79629e090b454625917c82b755fb7e9d593d2597222"), looks := false }, kinds := [], alts := [], laidByText := true, laidKinds := [.data], laidTests := true, laidLooks := .later }
def CodesAllCardSaid : Prop := Claim7.holds Tryd.pinned (.plain (OpenSpec.ofChange codesAllSpec)) codesAllCard

/-- THE SECOND FORM's CARD OF 'wicketlaw09.CodesNames'. -/
def codesNamesUptoCard : Claim7 := { stood := { row := codesNamesUptoRow, standIns := [], harness := (true, "412ca82f3beadb44a09ba79629e090b454625917c82b755fb7e9d593d2597222"), looks := false }, kinds := [], alts := [], laidByText := true, laidKinds := [.data], laidTests := true, laidLooks := .later }
def CodesNamesUptoCardSaid : Prop := Claim7.holds Tryd.pinned (.plain (OpenSpec.upto codesNamesSpec)) codesNamesUptoCard

/-- THE SECOND FORM's CARD OF 'wicketlaw09.CodesDraws'. -/
def codesDrawsUptoCard : Claim7 := { stood := { row := codesDrawsUptoRow, standIns := [], harness := (true, "412ca82f3beadb44a09ba79629e090b454625917c82b755fb7e9d593d2597222"), looks := false }, kinds := [], alts := [], laidByText := true, laidKinds := [.data], laidTests := true, laidLooks := .later }
def CodesDrawsUptoCardSaid : Prop := Claim7.holds Tryd.pinned (.plain (OpenSpec.upto codesDrawsSpec)) codesDrawsUptoCard

/-- THE SECOND FORM's CARD OF 'wicketlaw09.CodesShows'. -/
def codesShowsUptoCard : Claim7 := { stood := { row := codesShowsUptoRow, standIns := [], harness := (true, "412ca82f3beadb44a09ba79629e090b454625917c82b755fb7e9d593d2597222"), looks := false }, kinds := [], alts := [], laidByText := true, laidKinds := [.data], laidTests := true, laidLooks := .later }
def CodesShowsUptoCardSaid : Prop := Claim7.holds Tryd.pinned (.plain (OpenSpec.upto codesShowsSpec)) codesShowsUptoCard

/-- THE SECOND FORM's CARD OF 'wicketlaw09.CodesHandles'. -/
def codesHandlesUptoCard : Claim7 := { stood := { row := codesHandlesUptoRow, standIns := [], harness := (true, "412ca82f3beadb44a09ba79629e090b454625917c82b755fb7e9d593d2597222"), looks := false }, kinds := [], alts := [], laidByText := true, laidKinds := [.data, .data, .data], laidTests := true, laidLooks := .later }
def CodesHandlesUptoCardSaid : Prop := Claim7.holds Tryd.pinned (.plain (OpenSpec.upto codesHandlesSpec)) codesHandlesUptoCard

/-- THE SECOND FORM's CARD OF 'wicketlaw09.CodesTyped'. -/
def codesTypedUptoCard : Claim7 := { stood := { row := codesTypedUptoRow, standIns := [], harness := (true, "412ca82f3beadb44a09ba79629e090b454625917c82b755fb7e9d593d2597222"), looks := false }, kinds := [], alts := [], laidByText := true, laidKinds := [.data], laidTests := true, laidLooks := .later }
def CodesTypedUptoCardSaid : Prop := Claim7.holds Tryd.pinned (.plain (OpenSpec.upto codesTypedSpec)) codesTypedUptoCard

/-- THE SECOND FORM's CARD OF 'wicketlaw09.CodesAll'. -/
def codesAllUptoCard : Claim7 := { stood := { row := codesAllUptoRow, standIns := [], harness := (true, "412ca82f3beadb44a09ba79629e090b454625917c82b755fb7e9d593d2597222"), looks := false }, kinds := [], alts := [], laidByText := true, laidKinds := [.data], laidTests := true, laidLooks := .later }
def CodesAllUptoCardSaid : Prop := Claim7.holds Tryd.pinned (.plain (OpenSpec.upto codesAllSpec)) codesAllUptoCard
end Rows
end Go.Proofs.YtonnnolnkjahgaaDoor
