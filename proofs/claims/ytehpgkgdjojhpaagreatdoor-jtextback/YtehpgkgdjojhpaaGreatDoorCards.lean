/-
  DERIVED. GIVEN WITH THE SEED: THE CARDS: each row of YtehpgkgdjojhpaaGreatDoorRows.lean that lists a variable, with what it lists TIED to the program's text (the seventh form; the later family's looks); each row that meets fmt, with fmt's text TOLD by the authors' own Lean function (tested against real Go, not proved from fmt's source: count such statements apart). THE CARD IS WHAT COUNTS. Prove the row's statement (the work); the ties are given (YtehpgkgdjojhpaaGreatDoorTie.lean); close each card by the builder's one call (the guide's Derived/Test/ToyasCard.lean, 'card_holds'). Laid BY PROGRAM, IN A SANDBOX (cutbox-door.mjs). By AI agents, Wed Nov 11 2026. No macro, syntax, notation, axiom, sorry.
-/
import Derived.Test.YtehpgkgdjojhpaaGreatDoorRows
import GoSem.ClaimSeven
namespace Go.Proofs.YtehpgkgdjojhpaaGreatDoor
namespace Rows

/-- THE TIED CARD OF 'wicketlaw04.JtextParses'. -/
def jtextParsesCard : Claim7 := { stood := { row := jtextParsesRow, standIns := [], harness := (true, "f81c18eca744828c2b9d0f368fe849320e49f23e91165017b833ebee439c86a7"), looks := true }, kinds := [], alts := [], laidByText := true, laidKinds := [.data, .data, .data, .data, .pinned], laidTests := true, laidLooks := .later }
def JtextParsesCardSaid : Prop := Claim7.holds Tryz.pinned (.plain (OpenSpec.ofChange jtextParsesSpec)) jtextParsesCard

/-- THE TIED CARD OF 'wicketlaw04.JtextPrints'. -/
def jtextPrintsCard : Claim7 := { stood := { row := jtextPrintsRow, standIns := [], harness := (true, "f81c18eca744828c2b9d0f368fe849320e49f23e91165017b833ebee439c86a7"), looks := true }, kinds := [], alts := [], laidByText := true, laidKinds := [.data, .data, .data, .data, .pinned], laidTests := true, laidLooks := .later }
def JtextPrintsCardSaid : Prop := Claim7.holds Tryz.pinned (.plain (OpenSpec.ofChange jtextPrintsSpec)) jtextPrintsCard

/-- THE TIED CARD OF 'wicketlaw04.JtextSames'. -/
def jtextSamesCard : Claim7 := { stood := { row := jtextSamesRow, standIns := [], harness := (true, "f81c18eca744828c2b9d0f368fe849320e49f23e91165017b833ebee439c86a7"), looks := true }, kinds := [], alts := [], laidByText := true, laidKinds := [.data, .data, .data, .data, .pinned], laidTests := true, laidLooks := .later }
def JtextSamesCardSaid : Prop := Claim7.holds Tryz.pinned (.plain (OpenSpec.ofChange jtextSamesSpec)) jtextSamesCard

/-- THE TIED CARD OF 'wicketlaw04.JtextAsks'. -/
def jtextAsksCard : Claim7 := { stood := { row := jtextAsksRow, standIns := [], harness := (true, "f81c18eca744828c2b9d0f368fe849320e49f23e91165017b833ebee439c86a7"), looks := true }, kinds := [], alts := [], laidByText := true, laidKinds := [.data, .data, .data, .data, .sentinel, .sentinel, .pinned], laidTests := true, laidLooks := .later }
def JtextAsksCardSaid : Prop := Claim7.holds Tryz.pinned (.plain (OpenSpec.ofChange jtextAsksSpec)) jtextAsksCard

/-- THE TIED CARD OF 'wicketlaw04.JtextMakes'. -/
def jtextMakesCard : Claim7 := { stood := { row := jtextMakesRow, standIns := [], harness := (true, "f81c18eca744828c2b9d0f368fe849320e49f23e91165017b833ebee439c86a7"), looks := true }, kinds := [], alts := [], laidByText := true, laidKinds := [.data, .data, .data, .data, .pinned], laidTests := true, laidLooks := .later }
def JtextMakesCardSaid : Prop := Claim7.holds Tryz.pinned (.plain (OpenSpec.ofChange jtextMakesSpec)) jtextMakesCard

/-- THE TIED CARD OF 'wicketlaw04.JtextBack'. -/
def jtextBackCard : Claim7 := { stood := { row := jtextBackRow, standIns := [], harness := (true, "f81c18eca744828c2b9d0f368fe849320e49f23e91165017b833ebee439c86a7"), looks := true }, kinds := [], alts := [], laidByText := true, laidKinds := [.data, .data, .data, .data, .pinned], laidTests := true, laidLooks := .later }
def JtextBackCardSaid : Prop := Claim7.holds Tryz.pinned (.plain (OpenSpec.ofChange jtextBackSpec)) jtextBackCard

/-- THE SECOND FORM's CARD OF 'wicketlaw04.JtextParses'. -/
def jtextParsesUptoCard : Claim7 := { stood := { row := jtextParsesUptoRow, standIns := [], harness := (true, "f81c18eca744828c2b9d0f368fe849320e49f23e91165017b833ebee439c86a7"), looks := true }, kinds := [], alts := [], laidByText := true, laidKinds := [.data, .data, .data, .data, .pinned], laidTests := true, laidLooks := .later }
def JtextParsesUptoCardSaid : Prop := Claim7.holds Tryz.pinned (.plain (OpenSpec.upto jtextParsesSpec)) jtextParsesUptoCard

/-- THE SECOND FORM's CARD OF 'wicketlaw04.JtextPrints'. -/
def jtextPrintsUptoCard : Claim7 := { stood := { row := jtextPrintsUptoRow, standIns := [], harness := (true, "f81c18eca744828c2b9d0f368fe849320e49f23e91165017b833ebee439c86a7"), looks := true }, kinds := [], alts := [], laidByText := true, laidKinds := [.data, .data, .data, .data, .pinned], laidTests := true, laidLooks := .later }
def JtextPrintsUptoCardSaid : Prop := Claim7.holds Tryz.pinned (.plain (OpenSpec.upto jtextPrintsSpec)) jtextPrintsUptoCard

/-- THE SECOND FORM's CARD OF 'wicketlaw04.JtextSames'. -/
def jtextSamesUptoCard : Claim7 := { stood := { row := jtextSamesUptoRow, standIns := [], harness := (true, "f81c18eca744828c2b9d0f368fe849320e49f23e91165017b833ebee439c86a7"), looks := true }, kinds := [], alts := [], laidByText := true, laidKinds := [.data, .data, .data, .data, .pinned], laidTests := true, laidLooks := .later }
def JtextSamesUptoCardSaid : Prop := Claim7.holds Tryz.pinned (.plain (OpenSpec.upto jtextSamesSpec)) jtextSamesUptoCard

/-- THE SECOND FORM's CARD OF 'wicketlaw04.JtextAsks'. -/
def jtextAsksUptoCard : Claim7 := { stood := { row := jtextAsksUptoRow, standIns := [], harness := (true, "f81c18eca744828c2b9d0f368fe849320e49f23e91165017b833ebee439c86a7"), looks := true }, kinds := [], alts := [], laidByText := true, laidKinds := [.data, .data, .data, .data, .sentinel, .sentinel, .pinned], laidTests := true, laidLooks := .later }
def JtextAsksUptoCardSaid : Prop := Claim7.holds Tryz.pinned (.plain (OpenSpec.upto jtextAsksSpec)) jtextAsksUptoCard

/-- THE SECOND FORM's CARD OF 'wicketlaw04.JtextMakes'. -/
def jtextMakesUptoCard : Claim7 := { stood := { row := jtextMakesUptoRow, standIns := [], harness := (true, "f81c18eca744828c2b9d0f368fe849320e49f23e91165017b833ebee439c86a7"), looks := true }, kinds := [], alts := [], laidByText := true, laidKinds := [.data, .data, .data, .data, .pinned], laidTests := true, laidLooks := .later }
def JtextMakesUptoCardSaid : Prop := Claim7.holds Tryz.pinned (.plain (OpenSpec.upto jtextMakesSpec)) jtextMakesUptoCard

/-- THE SECOND FORM's CARD OF 'wicketlaw04.JtextBack'. -/
def jtextBackUptoCard : Claim7 := { stood := { row := jtextBackUptoRow, standIns := [], harness := (true, "f81c18eca744828c2b9d0f368fe849320e49f23e91165017b833ebee439c86a7"), looks := true }, kinds := [], alts := [], laidByText := true, laidKinds := [.data, .data, .data, .data, .pinned], laidTests := true, laidLooks := .later }
def JtextBackUptoCardSaid : Prop := Claim7.holds Tryz.pinned (.plain (OpenSpec.upto jtextBackSpec)) jtextBackUptoCard
end Rows
end Go.Proofs.YtehpgkgdjojhpaaGreatDoor
