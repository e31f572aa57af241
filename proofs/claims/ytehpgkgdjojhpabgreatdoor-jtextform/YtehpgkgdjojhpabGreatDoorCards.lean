/-
  DERIVED. GIVEN WITH THE SEED: THE CARDS: each row of YtehpgkgdjojhpabGreatDoorRows.lean that lists a variable, with what it lists TIED to the program's text (the seventh form; the later family's looks); each row that meets fmt, with fmt's text TOLD by the authors' own Lean function (tested against real Go, not proved from fmt's source: count such statements apart). THE CARD IS WHAT COUNTS. Prove the row's statement (the work); the ties are given (YtehpgkgdjojhpabGreatDoorTie.lean); close each card by the builder's one call (the guide's Derived/Test/ToyasCard.lean, 'card_holds'). Laid BY PROGRAM, IN A SANDBOX (cutbox-door.mjs). By AI agents, Wed Nov 11 2026. No macro, syntax, notation, axiom, sorry.
-/
import Derived.Test.YtehpgkgdjojhpabGreatDoorRows
import GoSem.ClaimSeven
namespace Go.Proofs.YtehpgkgdjojhpabGreatDoor
namespace Rows

/-- THE TIED CARD OF 'wicketlaw04.JtextForm'. -/
def jtextFormCard : Claim7 := { stood := { row := jtextFormRow, standIns := [], harness := (true, "b0ad0ead42d2379c69af5a89c962f8d1fdeb474192fb2e964cb9ded90e82311b"), looks := true }, kinds := [], alts := [], laidByText := true, laidKinds := [.data, .data, .data, .data, .pinned], laidTests := true, laidLooks := .later }
def JtextFormCardSaid : Prop := Claim7.holds Tryz.pinned (.plain (OpenSpec.ofChange jtextFormSpec)) jtextFormCard

/-- THE TIED CARD OF 'wicketlaw04.JtextFirst'. -/
def jtextFirstCard : Claim7 := { stood := { row := jtextFirstRow, standIns := [], harness := (true, "b0ad0ead42d2379c69af5a89c962f8d1fdeb474192fb2e964cb9ded90e82311b"), looks := true }, kinds := [], alts := [], laidByText := true, laidKinds := [.data, .data, .data, .data, .pinned], laidTests := true, laidLooks := .later }
def JtextFirstCardSaid : Prop := Claim7.holds Tryz.pinned (.plain (OpenSpec.ofChange jtextFirstSpec)) jtextFirstCard

/-- THE TIED CARD OF 'wicketlaw04.JtextAscii'. -/
def jtextAsciiCard : Claim7 := { stood := { row := jtextAsciiRow, standIns := [], harness := (true, "b0ad0ead42d2379c69af5a89c962f8d1fdeb474192fb2e964cb9ded90e82311b"), looks := true }, kinds := [], alts := [], laidByText := true, laidKinds := [.data, .data, .data, .data, .pinned], laidTests := true, laidLooks := .later }
def JtextAsciiCardSaid : Prop := Claim7.holds Tryz.pinned (.plain (OpenSpec.ofChange jtextAsciiSpec)) jtextAsciiCard

/-- THE TIED CARD OF 'wicketlaw04.JtextCanon'. -/
def jtextCanonCard : Claim7 := { stood := { row := jtextCanonRow, standIns := [], harness := (true, "b0ad0ead42d2379c69af5a89c962f8d1fdeb474192fb2e964cb9ded90e82311b"), looks := true }, kinds := [], alts := [], laidByText := true, laidKinds := [.data, .data, .data, .data, .pinned], laidTests := true, laidLooks := .later }
def JtextCanonCardSaid : Prop := Claim7.holds Tryz.pinned (.plain (OpenSpec.ofChange jtextCanonSpec)) jtextCanonCard

/-- THE TIED CARD OF 'wicketlaw04.JtextOwn'. -/
def jtextOwnCard : Claim7 := { stood := { row := jtextOwnRow, standIns := [], harness := (true, "b0ad0ead42d2379c69af5a89c962f8d1fdeb474192fb2e964cb9ded90e82311b"), looks := true }, kinds := [], alts := [], laidByText := true, laidKinds := [.data, .data, .data, .data, .pinned], laidTests := true, laidLooks := .later }
def JtextOwnCardSaid : Prop := Claim7.holds Tryz.pinned (.plain (OpenSpec.ofChange jtextOwnSpec)) jtextOwnCard

/-- THE SECOND FORM's CARD OF 'wicketlaw04.JtextForm'. -/
def jtextFormUptoCard : Claim7 := { stood := { row := jtextFormUptoRow, standIns := [], harness := (true, "b0ad0ead42d2379c69af5a89c962f8d1fdeb474192fb2e964cb9ded90e82311b"), looks := true }, kinds := [], alts := [], laidByText := true, laidKinds := [.data, .data, .data, .data, .pinned], laidTests := true, laidLooks := .later }
def JtextFormUptoCardSaid : Prop := Claim7.holds Tryz.pinned (.plain (OpenSpec.upto jtextFormSpec)) jtextFormUptoCard

/-- THE SECOND FORM's CARD OF 'wicketlaw04.JtextFirst'. -/
def jtextFirstUptoCard : Claim7 := { stood := { row := jtextFirstUptoRow, standIns := [], harness := (true, "b0ad0ead42d2379c69af5a89c962f8d1fdeb474192fb2e964cb9ded90e82311b"), looks := true }, kinds := [], alts := [], laidByText := true, laidKinds := [.data, .data, .data, .data, .pinned], laidTests := true, laidLooks := .later }
def JtextFirstUptoCardSaid : Prop := Claim7.holds Tryz.pinned (.plain (OpenSpec.upto jtextFirstSpec)) jtextFirstUptoCard

/-- THE SECOND FORM's CARD OF 'wicketlaw04.JtextAscii'. -/
def jtextAsciiUptoCard : Claim7 := { stood := { row := jtextAsciiUptoRow, standIns := [], harness := (true, "b0ad0ead42d2379c69af5a89c962f8d1fdeb474192fb2e964cb9ded90e82311b"), looks := true }, kinds := [], alts := [], laidByText := true, laidKinds := [.data, .data, .data, .data, .pinned], laidTests := true, laidLooks := .later }
def JtextAsciiUptoCardSaid : Prop := Claim7.holds Tryz.pinned (.plain (OpenSpec.upto jtextAsciiSpec)) jtextAsciiUptoCard

/-- THE SECOND FORM's CARD OF 'wicketlaw04.JtextCanon'. -/
def jtextCanonUptoCard : Claim7 := { stood := { row := jtextCanonUptoRow, standIns := [], harness := (true, "b0ad0ead42d2379c69af5a89c962f8d1fdeb474192fb2e964cb9ded90e82311b"), looks := true }, kinds := [], alts := [], laidByText := true, laidKinds := [.data, .data, .data, .data, .pinned], laidTests := true, laidLooks := .later }
def JtextCanonUptoCardSaid : Prop := Claim7.holds Tryz.pinned (.plain (OpenSpec.upto jtextCanonSpec)) jtextCanonUptoCard

/-- THE SECOND FORM's CARD OF 'wicketlaw04.JtextOwn'. -/
def jtextOwnUptoCard : Claim7 := { stood := { row := jtextOwnUptoRow, standIns := [], harness := (true, "b0ad0ead42d2379c69af5a89c962f8d1fdeb474192fb2e964cb9ded90e82311b"), looks := true }, kinds := [], alts := [], laidByText := true, laidKinds := [.data, .data, .data, .data, .pinned], laidTests := true, laidLooks := .later }
def JtextOwnUptoCardSaid : Prop := Claim7.holds Tryz.pinned (.plain (OpenSpec.upto jtextOwnSpec)) jtextOwnUptoCard
end Rows
end Go.Proofs.YtehpgkgdjojhpabGreatDoor
