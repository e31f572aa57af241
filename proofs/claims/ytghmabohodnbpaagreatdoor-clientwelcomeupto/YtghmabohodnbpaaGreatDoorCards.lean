/-
  DERIVED. GIVEN WITH THE SEED: THE CARDS: each row of YtghmabohodnbpaaGreatDoorRows.lean that lists a variable, with what it lists TIED to the program's text (the seventh form; the later family's looks); each row that meets fmt, with fmt's text TOLD by the authors' own Lean function (tested against real Go, not proved from fmt's source: count such statements apart). THE CARD IS WHAT COUNTS. Prove the row's statement (the work); the ties are given (YtghmabohodnbpaaGreatDoorTie.lean); close each card by the builder's one call (the guide's Derived/Test/ToyasCard.lean, 'card_holds'). Laid BY PROGRAM, IN A SANDBOX (cutbox-door.mjs). By AI agents, Wed Nov 11 2026. No macro, syntax, notation, axiom, sorry.
-/
import Derived.Test.YtghmabohodnbpaaGreatDoorRows
import GoSem.ClaimSeven
namespace Go.Proofs.YtghmabohodnbpaaGreatDoor
namespace Rows

/-- THE TIED CARD OF 'wicketlaw11.ClientParses'. -/
def clientParsesCard : Claim7 := { stood := { row := clientParsesRow, standIns := [], harness := (true, "fa7c43734f6be49afc6d69f5a10df751940cec9e20a5bc814e4a2e3c2fb58730"), looks := false }, kinds := [], alts := [], laidByText := true, laidKinds := [.data, .pinned], laidTests := true, laidLooks := .later }
def ClientParsesCardSaid : Prop := Claim7.holds Tryz.pinned (.plain (OpenSpec.ofChange clientParsesSpec)) clientParsesCard

/-- THE TIED CARD OF 'wicketlaw11.ClientPrints'. -/
def clientPrintsCard : Claim7 := { stood := { row := clientPrintsRow, standIns := [], harness := (true, "fa7c43734f6be49afc6d69f5a10df751940cec9e20a5bc814e4a2e3c2fb58730"), looks := false }, kinds := [], alts := [], laidByText := true, laidKinds := [.data, .data, .pinned], laidTests := true, laidLooks := .later }
def ClientPrintsCardSaid : Prop := Claim7.holds Tryz.pinned (.plain (OpenSpec.ofChange clientPrintsSpec)) clientPrintsCard

/-- THE TIED CARD OF 'wicketlaw11.ClientBack'. -/
def clientBackCard : Claim7 := { stood := { row := clientBackRow, standIns := [], harness := (true, "fa7c43734f6be49afc6d69f5a10df751940cec9e20a5bc814e4a2e3c2fb58730"), looks := false }, kinds := [], alts := [], laidByText := true, laidKinds := [.data, .data, .pinned], laidTests := true, laidLooks := .later }
def ClientBackCardSaid : Prop := Claim7.holds Tryz.pinned (.plain (OpenSpec.ofChange clientBackSpec)) clientBackCard

/-- THE TIED CARD OF 'wicketlaw11.ClientWelcome'. -/
def clientWelcomeCard : Claim7 := { stood := { row := clientWelcomeRow, standIns := [], harness := (true, "fa7c43734f6be49afc6d69f5a10df751940cec9e20a5bc814e4a2e3c2fb58730"), looks := false }, kinds := [], alts := [], laidByText := true, laidKinds := [.data, .pinned], laidTests := true, laidLooks := .later }
def ClientWelcomeCardSaid : Prop := Claim7.holds Tryz.pinned (.plain (OpenSpec.ofChange clientWelcomeSpec)) clientWelcomeCard

/-- THE SECOND FORM's CARD OF 'wicketlaw11.ClientParses'. -/
def clientParsesUptoCard : Claim7 := { stood := { row := clientParsesUptoRow, standIns := [], harness := (true, "fa7c43734f6be49afc6d69f5a10df751940cec9e20a5bc814e4a2e3c2fb58730"), looks := false }, kinds := [], alts := [], laidByText := true, laidKinds := [.data, .pinned], laidTests := true, laidLooks := .later }
def ClientParsesUptoCardSaid : Prop := Claim7.holds Tryz.pinned (.plain (OpenSpec.upto clientParsesSpec)) clientParsesUptoCard

/-- THE SECOND FORM's CARD OF 'wicketlaw11.ClientPrints'. -/
def clientPrintsUptoCard : Claim7 := { stood := { row := clientPrintsUptoRow, standIns := [], harness := (true, "fa7c43734f6be49afc6d69f5a10df751940cec9e20a5bc814e4a2e3c2fb58730"), looks := false }, kinds := [], alts := [], laidByText := true, laidKinds := [.data, .data, .pinned], laidTests := true, laidLooks := .later }
def ClientPrintsUptoCardSaid : Prop := Claim7.holds Tryz.pinned (.plain (OpenSpec.upto clientPrintsSpec)) clientPrintsUptoCard

/-- THE SECOND FORM's CARD OF 'wicketlaw11.ClientBack'. -/
def clientBackUptoCard : Claim7 := { stood := { row := clientBackUptoRow, standIns := [], harness := (true, "fa7c43734f6be49afc6d69f5a10df751940cec9e20a5bc814e4a2e3c2fb58730"), looks := false }, kinds := [], alts := [], laidByText := true, laidKinds := [.data, .data, .pinned], laidTests := true, laidLooks := .later }
def ClientBackUptoCardSaid : Prop := Claim7.holds Tryz.pinned (.plain (OpenSpec.upto clientBackSpec)) clientBackUptoCard

/-- THE SECOND FORM's CARD OF 'wicketlaw11.ClientWelcome'. -/
def clientWelcomeUptoCard : Claim7 := { stood := { row := clientWelcomeUptoRow, standIns := [], harness := (true, "fa7c43734f6be49afc6d69f5a10df751940cec9e20a5bc814e4a2e3c2fb58730"), looks := false }, kinds := [], alts := [], laidByText := true, laidKinds := [.data, .pinned], laidTests := true, laidLooks := .later }
def ClientWelcomeUptoCardSaid : Prop := Claim7.holds Tryz.pinned (.plain (OpenSpec.upto clientWelcomeSpec)) clientWelcomeUptoCard
end Rows
end Go.Proofs.YtghmabohodnbpaaGreatDoor
