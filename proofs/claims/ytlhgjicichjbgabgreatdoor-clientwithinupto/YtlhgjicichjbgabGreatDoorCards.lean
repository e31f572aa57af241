/-
  DERIVED. GIVEN WITH THE SEED: THE CARDS: each row of YtlhgjicichjbgabGreatDoorRows.lean that lists a variable, with what it lists TIED to the program's text (the seventh form; the later family's looks); each row that meets fmt, with fmt's text TOLD by the authors' own Lean function (tested against real Go, not proved from fmt's source: count such statements apart). THE CARD IS WHAT COUNTS. Prove the row's statement (the work); the ties are given (YtlhgjicichjbgabGreatDoorTie.lean); close each card by the builder's one call (the guide's Derived/Test/ToyasCard.lean, 'card_holds'). Laid BY PROGRAM, IN A SANDBOX (cutbox-door.mjs). By AI agents, Wed Nov 11 2026. No macro, syntax, notation, axiom, sorry.
-/
import Derived.Test.YtlhgjicichjbgabGreatDoorRows
import GoSem.ClaimSeven
namespace Go.Proofs.YtlhgjicichjbgabGreatDoor
namespace Rows

/-- THE TIED CARD OF 'wicketlaw11.ClientShows'. -/
def clientShowsCard : Claim7 := { stood := { row := clientShowsRow, standIns := [], harness := (true, "ef7c1dc8903857f8f295b9484f069c3e601e3254216e7aea55e760bc1b7a058a"), looks := false }, kinds := [], alts := [], laidByText := true, laidKinds := [.data, .pinned], laidTests := true, laidLooks := .later }
def ClientShowsCardSaid : Prop := Claim7.holds Tryz.pinned (.plain (OpenSpec.ofChange clientShowsSpec)) clientShowsCard

/-- THE TIED CARD OF 'wicketlaw11.ClientScopes'. -/
def clientScopesCard : Claim7 := { stood := { row := clientScopesRow, standIns := [], harness := (true, "ef7c1dc8903857f8f295b9484f069c3e601e3254216e7aea55e760bc1b7a058a"), looks := false }, kinds := [], alts := [], laidByText := true, laidKinds := [.data, .pinned], laidTests := true, laidLooks := .later }
def ClientScopesCardSaid : Prop := Claim7.holds Tryz.pinned (.plain (OpenSpec.ofChange clientScopesSpec)) clientScopesCard

/-- THE TIED CARD OF 'wicketlaw11.ClientBack'. -/
def clientBackCard : Claim7 := { stood := { row := clientBackRow, standIns := [], harness := (true, "ef7c1dc8903857f8f295b9484f069c3e601e3254216e7aea55e760bc1b7a058a"), looks := false }, kinds := [], alts := [], laidByText := true, laidKinds := [.data, .data, .pinned], laidTests := true, laidLooks := .later }
def ClientBackCardSaid : Prop := Claim7.holds Tryz.pinned (.plain (OpenSpec.ofChange clientBackSpec)) clientBackCard

/-- THE TIED CARD OF 'wicketlaw11.ClientProof'. -/
def clientProofCard : Claim7 := { stood := { row := clientProofRow, standIns := [], harness := (true, "ef7c1dc8903857f8f295b9484f069c3e601e3254216e7aea55e760bc1b7a058a"), looks := false }, kinds := [], alts := [], laidByText := true, laidKinds := [.data, .pinned], laidTests := true, laidLooks := .later }
def ClientProofCardSaid : Prop := Claim7.holds Tryz.pinned (.plain (OpenSpec.ofChange clientProofSpec)) clientProofCard

/-- THE TIED CARD OF 'wicketlaw11.ClientWelcome'. -/
def clientWelcomeCard : Claim7 := { stood := { row := clientWelcomeRow, standIns := [], harness := (true, "ef7c1dc8903857f8f295b9484f069c3e601e3254216e7aea55e760bc1b7a058a"), looks := false }, kinds := [], alts := [], laidByText := true, laidKinds := [.data, .pinned], laidTests := true, laidLooks := .later }
def ClientWelcomeCardSaid : Prop := Claim7.holds Tryz.pinned (.plain (OpenSpec.ofChange clientWelcomeSpec)) clientWelcomeCard

/-- THE TIED CARD OF 'wicketlaw11.ClientWithin'. -/
def clientWithinCard : Claim7 := { stood := { row := clientWithinRow, standIns := [], harness := (true, "ef7c1dc8903857f8f295b9484f069c3e601e3254216e7aea55e760bc1b7a058a"), looks := false }, kinds := [], alts := [], laidByText := true, laidKinds := [.data, .pinned], laidTests := true, laidLooks := .later }
def ClientWithinCardSaid : Prop := Claim7.holds Tryz.pinned (.plain (OpenSpec.ofChange clientWithinSpec)) clientWithinCard

/-- THE SECOND FORM's CARD OF 'wicketlaw11.ClientShows'. -/
def clientShowsUptoCard : Claim7 := { stood := { row := clientShowsUptoRow, standIns := [], harness := (true, "ef7c1dc8903857f8f295b9484f069c3e601e3254216e7aea55e760bc1b7a058a"), looks := false }, kinds := [], alts := [], laidByText := true, laidKinds := [.data, .pinned], laidTests := true, laidLooks := .later }
def ClientShowsUptoCardSaid : Prop := Claim7.holds Tryz.pinned (.plain (OpenSpec.upto clientShowsSpec)) clientShowsUptoCard

/-- THE SECOND FORM's CARD OF 'wicketlaw11.ClientScopes'. -/
def clientScopesUptoCard : Claim7 := { stood := { row := clientScopesUptoRow, standIns := [], harness := (true, "ef7c1dc8903857f8f295b9484f069c3e601e3254216e7aea55e760bc1b7a058a"), looks := false }, kinds := [], alts := [], laidByText := true, laidKinds := [.data, .pinned], laidTests := true, laidLooks := .later }
def ClientScopesUptoCardSaid : Prop := Claim7.holds Tryz.pinned (.plain (OpenSpec.upto clientScopesSpec)) clientScopesUptoCard

/-- THE SECOND FORM's CARD OF 'wicketlaw11.ClientBack'. -/
def clientBackUptoCard : Claim7 := { stood := { row := clientBackUptoRow, standIns := [], harness := (true, "ef7c1dc8903857f8f295b9484f069c3e601e3254216e7aea55e760bc1b7a058a"), looks := false }, kinds := [], alts := [], laidByText := true, laidKinds := [.data, .data, .pinned], laidTests := true, laidLooks := .later }
def ClientBackUptoCardSaid : Prop := Claim7.holds Tryz.pinned (.plain (OpenSpec.upto clientBackSpec)) clientBackUptoCard

/-- THE SECOND FORM's CARD OF 'wicketlaw11.ClientProof'. -/
def clientProofUptoCard : Claim7 := { stood := { row := clientProofUptoRow, standIns := [], harness := (true, "ef7c1dc8903857f8f295b9484f069c3e601e3254216e7aea55e760bc1b7a058a"), looks := false }, kinds := [], alts := [], laidByText := true, laidKinds := [.data, .pinned], laidTests := true, laidLooks := .later }
def ClientProofUptoCardSaid : Prop := Claim7.holds Tryz.pinned (.plain (OpenSpec.upto clientProofSpec)) clientProofUptoCard

/-- THE SECOND FORM's CARD OF 'wicketlaw11.ClientWelcome'. -/
def clientWelcomeUptoCard : Claim7 := { stood := { row := clientWelcomeUptoRow, standIns := [], harness := (true, "ef7c1dc8903857f8f295b9484f069c3e601e3254216e7aea55e760bc1b7a058a"), looks := false }, kinds := [], alts := [], laidByText := true, laidKinds := [.data, .pinned], laidTests := true, laidLooks := .later }
def ClientWelcomeUptoCardSaid : Prop := Claim7.holds Tryz.pinned (.plain (OpenSpec.upto clientWelcomeSpec)) clientWelcomeUptoCard

/-- THE SECOND FORM's CARD OF 'wicketlaw11.ClientWithin'. -/
def clientWithinUptoCard : Claim7 := { stood := { row := clientWithinUptoRow, standIns := [], harness := (true, "ef7c1dc8903857f8f295b9484f069c3e601e3254216e7aea55e760bc1b7a058a"), looks := false }, kinds := [], alts := [], laidByText := true, laidKinds := [.data, .pinned], laidTests := true, laidLooks := .later }
def ClientWithinUptoCardSaid : Prop := Claim7.holds Tryz.pinned (.plain (OpenSpec.upto clientWithinSpec)) clientWithinUptoCard
end Rows
end Go.Proofs.YtlhgjicichjbgabGreatDoor
