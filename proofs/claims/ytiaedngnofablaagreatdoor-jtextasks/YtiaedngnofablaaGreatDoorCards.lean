/-
  DERIVED. GIVEN WITH THE SEED: THE CARDS: each row of YtiaedngnofablaaGreatDoorRows.lean that lists a variable, with what it lists TIED to the program's text (the seventh form; the later family's looks); each row that meets fmt, with fmt's text TOLD by the authors' own Lean function (tested against real Go, not proved from fmt's source: count such statements apart). THE CARD IS WHAT COUNTS. Prove the row's statement (the work); the ties are given (YtiaedngnofablaaGreatDoorTie.lean); close each card by the builder's one call (the guide's Derived/Test/ToyasCard.lean, 'card_holds'). Laid BY PROGRAM, IN A SANDBOX (cutbox-door.mjs). By AI agents, Wed Nov 11 2026. No macro, syntax, notation, axiom, sorry.
-/
import Derived.Test.YtiaedngnofablaaGreatDoorRows
import GoSem.ClaimSeven
namespace Go.Proofs.YtiaedngnofablaaGreatDoor
namespace Rows

/-- THE TIED CARD OF 'wicketlaw04.JtextParses'. -/
def jtextParsesCard : Claim7 := { stood := { row := jtextParsesRow, standIns := [], harness := (true, "7f78bd811b2e50d81dba508ef114e00727354d151384a1d2cfb8e29ffb6dfde5"), looks := true }, kinds := [], alts := [], laidByText := true, laidKinds := [.data, .data, .data, .data, .pinned], laidTests := true, laidLooks := .later }
def JtextParsesCardSaid : Prop := Claim7.holds Tryz.pinned (.plain (OpenSpec.ofChange jtextParsesSpec)) jtextParsesCard

/-- THE TIED CARD OF 'wicketlaw04.JtextPrints'. -/
def jtextPrintsCard : Claim7 := { stood := { row := jtextPrintsRow, standIns := [], harness := (true, "7f78bd811b2e50d81dba508ef114e00727354d151384a1d2cfb8e29ffb6dfde5"), looks := true }, kinds := [], alts := [], laidByText := true, laidKinds := [.data, .data, .data, .data, .pinned], laidTests := true, laidLooks := .later }
def JtextPrintsCardSaid : Prop := Claim7.holds Tryz.pinned (.plain (OpenSpec.ofChange jtextPrintsSpec)) jtextPrintsCard

/-- THE TIED CARD OF 'wicketlaw04.JtextSames'. -/
def jtextSamesCard : Claim7 := { stood := { row := jtextSamesRow, standIns := [], harness := (true, "7f78bd811b2e50d81dba508ef114e00727354d151384a1d2cfb8e29ffb6dfde5"), looks := true }, kinds := [], alts := [], laidByText := true, laidKinds := [.data, .data, .data, .data, .pinned], laidTests := true, laidLooks := .later }
def JtextSamesCardSaid : Prop := Claim7.holds Tryz.pinned (.plain (OpenSpec.ofChange jtextSamesSpec)) jtextSamesCard

/-- THE TIED CARD OF 'wicketlaw04.JtextAsks'. -/
def jtextAsksCard : Claim7 := { stood := { row := jtextAsksRow, standIns := [], harness := (true, "7f78bd811b2e50d81dba508ef114e00727354d151384a1d2cfb8e29ffb6dfde5"), looks := true }, kinds := [], alts := [], laidByText := true, laidKinds := [.data, .data, .data, .data, .sentinel, .sentinel, .pinned], laidTests := true, laidLooks := .later }
def JtextAsksCardSaid : Prop := Claim7.holds Tryz.pinned (.plain (OpenSpec.ofChange jtextAsksSpec)) jtextAsksCard

/-- THE TIED CARD OF 'wicketlaw04.JtextMakes'. -/
def jtextMakesCard : Claim7 := { stood := { row := jtextMakesRow, standIns := [], harness := (true, "7f78bd811b2e50d81dba508ef114e00727354d151384a1d2cfb8e29ffb6dfde5"), looks := true }, kinds := [], alts := [], laidByText := true, laidKinds := [.data, .data, .data, .data, .pinned], laidTests := true, laidLooks := .later }
def JtextMakesCardSaid : Prop := Claim7.holds Tryz.pinned (.plain (OpenSpec.ofChange jtextMakesSpec)) jtextMakesCard

/-- THE TIED CARD OF 'wicketlaw04.JtextOwn'. -/
def jtextOwnCard : Claim7 := { stood := { row := jtextOwnRow, standIns := [], harness := (true, "7f78bd811b2e50d81dba508ef114e00727354d151384a1d2cfb8e29ffb6dfde5"), looks := true }, kinds := [], alts := [], laidByText := true, laidKinds := [.data, .data, .data, .data, .pinned], laidTests := true, laidLooks := .later }
def JtextOwnCardSaid : Prop := Claim7.holds Tryz.pinned (.plain (OpenSpec.ofChange jtextOwnSpec)) jtextOwnCard

/-- THE SECOND FORM's CARD OF 'wicketlaw04.JtextParses'. -/
def jtextParsesUptoCard : Claim7 := { stood := { row := jtextParsesUptoRow, standIns := [], harness := (true, "7f78bd811b2e50d81dba508ef114e00727354d151384a1d2cfb8e29ffb6dfde5"), looks := true }, kinds := [], alts := [], laidByText := true, laidKinds := [.data, .data, .data, .data, .pinned], laidTests := true, laidLooks := .later }
def JtextParsesUptoCardSaid : Prop := Claim7.holds Tryz.pinned (.plain (OpenSpec.upto jtextParsesSpec)) jtextParsesUptoCard

/-- THE SECOND FORM's CARD OF 'wicketlaw04.JtextPrints'. -/
def jtextPrintsUptoCard : Claim7 := { stood := { row := jtextPrintsUptoRow, standIns := [], harness := (true, "7f78bd811b2e50d81dba508ef114e00727354d151384a1d2cfb8e29ffb6dfde5"), looks := true }, kinds := [], alts := [], laidByText := true, laidKinds := [.data, .data, .data, .data, .pinned], laidTests := true, laidLooks := .later }
def JtextPrintsUptoCardSaid : Prop := Claim7.holds Tryz.pinned (.plain (OpenSpec.upto jtextPrintsSpec)) jtextPrintsUptoCard

/-- THE SECOND FORM's CARD OF 'wicketlaw04.JtextSames'. -/
def jtextSamesUptoCard : Claim7 := { stood := { row := jtextSamesUptoRow, standIns := [], harness := (true, "7f78bd811b2e50d81dba508ef114e00727354d151384a1d2cfb8e29ffb6dfde5"), looks := true }, kinds := [], alts := [], laidByText := true, laidKinds := [.data, .data, .data, .data, .pinned], laidTests := true, laidLooks := .later }
def JtextSamesUptoCardSaid : Prop := Claim7.holds Tryz.pinned (.plain (OpenSpec.upto jtextSamesSpec)) jtextSamesUptoCard

/-- THE SECOND FORM's CARD OF 'wicketlaw04.JtextAsks'. -/
def jtextAsksUptoCard : Claim7 := { stood := { row := jtextAsksUptoRow, standIns := [], harness := (true, "7f78bd811b2e50d81dba508ef114e00727354d151384a1d2cfb8e29ffb6dfde5"), looks := true }, kinds := [], alts := [], laidByText := true, laidKinds := [.data, .data, .data, .data, .sentinel, .sentinel, .pinned], laidTests := true, laidLooks := .later }
def JtextAsksUptoCardSaid : Prop := Claim7.holds Tryz.pinned (.plain (OpenSpec.upto jtextAsksSpec)) jtextAsksUptoCard

/-- THE SECOND FORM's CARD OF 'wicketlaw04.JtextMakes'. -/
def jtextMakesUptoCard : Claim7 := { stood := { row := jtextMakesUptoRow, standIns := [], harness := (true, "7f78bd811b2e50d81dba508ef114e00727354d151384a1d2cfb8e29ffb6dfde5"), looks := true }, kinds := [], alts := [], laidByText := true, laidKinds := [.data, .data, .data, .data, .pinned], laidTests := true, laidLooks := .later }
def JtextMakesUptoCardSaid : Prop := Claim7.holds Tryz.pinned (.plain (OpenSpec.upto jtextMakesSpec)) jtextMakesUptoCard

/-- THE SECOND FORM's CARD OF 'wicketlaw04.JtextOwn'. -/
def jtextOwnUptoCard : Claim7 := { stood := { row := jtextOwnUptoRow, standIns := [], harness := (true, "7f78bd811b2e50d81dba508ef114e00727354d151384a1d2cfb8e29ffb6dfde5"), looks := true }, kinds := [], alts := [], laidByText := true, laidKinds := [.data, .data, .data, .data, .pinned], laidTests := true, laidLooks := .later }
def JtextOwnUptoCardSaid : Prop := Claim7.holds Tryz.pinned (.plain (OpenSpec.upto jtextOwnSpec)) jtextOwnUptoCard
end Rows
end Go.Proofs.YtiaedngnofablaaGreatDoor
