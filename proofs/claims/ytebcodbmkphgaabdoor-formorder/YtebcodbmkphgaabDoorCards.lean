/-
  DERIVED. GIVEN WITH THE SEED: THE CARDS: each row of YtebcodbmkphgaabDoorRows.lean that lists a variable, with what it lists TIED to the program's text (the seventh form; the later family's looks); each row that meets fmt, with fmt's text TOLD by the authors' own Lean function (tested against real Go, not proved from fmt's source: count such statements apart). THE CARD IS WHAT COUNTS. Prove the row's statement (the work); the ties are given (YtebcodbmkphgaabDoorTie.lean); close each card by the builder's one call (the guide's Derived/Test/ToyasCard.lean, 'card_holds'). Laid BY PROGRAM, IN A SANDBOX (cutbox-door.mjs). By AI agents, Wed Nov 11 2026. No macro, syntax, notation, axiom, sorry.
-/
import Derived.Test.YtebcodbmkphgaabDoorRows
import GoSem.ClaimSeven
namespace Go.Proofs.YtebcodbmkphgaabDoor
namespace Rows

/-- THE TIED CARD OF 'wicketlaw03.FormBack'. -/
def formBackCard : Claim7 := { stood := { row := formBackRow, standIns := [], harness := (true, "30b0a67a5a0b7bd4e6d86d2e0c3e4537a338e448d750783183f6a24f630fa466"), looks := false }, kinds := [], alts := [], laidByText := true, laidKinds := [.data, .pinned], laidTests := true, laidLooks := .later }
def FormBackCardSaid : Prop := Claim7.holds Tryd.pinned (.plain (OpenSpec.ofChange formBackSpec)) formBackCard

/-- THE TIED CARD OF 'wicketlaw03.FormAgain'. -/
def formAgainCard : Claim7 := { stood := { row := formAgainRow, standIns := [], harness := (true, "30b0a67a5a0b7bd4e6d86d2e0c3e4537a338e448d750783183f6a24f630fa466"), looks := false }, kinds := [], alts := [], laidByText := true, laidKinds := [.data, .pinned], laidTests := true, laidLooks := .later }
def FormAgainCardSaid : Prop := Claim7.holds Tryd.pinned (.plain (OpenSpec.ofChange formAgainSpec)) formAgainCard

/-- THE TIED CARD OF 'wicketlaw03.FormJoins'. -/
def formJoinsCard : Claim7 := { stood := { row := formJoinsRow, standIns := [], harness := (true, "30b0a67a5a0b7bd4e6d86d2e0c3e4537a338e448d750783183f6a24f630fa466"), looks := false }, kinds := [], alts := [], laidByText := true, laidKinds := [.data, .pinned], laidTests := true, laidLooks := .later }
def FormJoinsCardSaid : Prop := Claim7.holds Tryd.pinned (.plain (OpenSpec.ofChange formJoinsSpec)) formJoinsCard

/-- THE TIED CARD OF 'wicketlaw03.FormOrder'. -/
def formOrderCard : Claim7 := { stood := { row := formOrderRow, standIns := [], harness := (true, "30b0a67a5a0b7bd4e6d86d2e0c3e4537a338e448d750783183f6a24f630fa466"), looks := false }, kinds := [], alts := [], laidByText := true, laidKinds := [.data, .pinned], laidTests := true, laidLooks := .later }
def FormOrderCardSaid : Prop := Claim7.holds Tryd.pinned (.plain (OpenSpec.ofChange formOrderSpec)) formOrderCard

/-- THE SECOND FORM's CARD OF 'wicketlaw03.FormBack'. -/
def formBackUptoCard : Claim7 := { stood := { row := formBackUptoRow, standIns := [], harness := (true, "30b0a67a5a0b7bd4e6d86d2e0c3e4537a338e448d750783183f6a24f630fa466"), looks := false }, kinds := [], alts := [], laidByText := true, laidKinds := [.data, .pinned], laidTests := true, laidLooks := .later }
def FormBackUptoCardSaid : Prop := Claim7.holds Tryd.pinned (.plain (OpenSpec.upto formBackSpec)) formBackUptoCard

/-- THE SECOND FORM's CARD OF 'wicketlaw03.FormAgain'. -/
def formAgainUptoCard : Claim7 := { stood := { row := formAgainUptoRow, standIns := [], harness := (true, "30b0a67a5a0b7bd4e6d86d2e0c3e4537a338e448d750783183f6a24f630fa466"), looks := false }, kinds := [], alts := [], laidByText := true, laidKinds := [.data, .pinned], laidTests := true, laidLooks := .later }
def FormAgainUptoCardSaid : Prop := Claim7.holds Tryd.pinned (.plain (OpenSpec.upto formAgainSpec)) formAgainUptoCard

/-- THE SECOND FORM's CARD OF 'wicketlaw03.FormJoins'. -/
def formJoinsUptoCard : Claim7 := { stood := { row := formJoinsUptoRow, standIns := [], harness := (true, "30b0a67a5a0b7bd4e6d86d2e0c3e4537a338e448d750783183f6a24f630fa466"), looks := false }, kinds := [], alts := [], laidByText := true, laidKinds := [.data, .pinned], laidTests := true, laidLooks := .later }
def FormJoinsUptoCardSaid : Prop := Claim7.holds Tryd.pinned (.plain (OpenSpec.upto formJoinsSpec)) formJoinsUptoCard

/-- THE SECOND FORM's CARD OF 'wicketlaw03.FormOrder'. -/
def formOrderUptoCard : Claim7 := { stood := { row := formOrderUptoRow, standIns := [], harness := (true, "30b0a67a5a0b7bd4e6d86d2e0c3e4537a338e448d750783183f6a24f630fa466"), looks := false }, kinds := [], alts := [], laidByText := true, laidKinds := [.data, .pinned], laidTests := true, laidLooks := .later }
def FormOrderUptoCardSaid : Prop := Claim7.holds Tryd.pinned (.plain (OpenSpec.upto formOrderSpec)) formOrderUptoCard
end Rows
end Go.Proofs.YtebcodbmkphgaabDoor
