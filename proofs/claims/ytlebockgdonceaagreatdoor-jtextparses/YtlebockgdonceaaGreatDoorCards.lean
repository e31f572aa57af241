/-
  DERIVED. GIVEN WITH THE SEED: THE CARDS: each row of YtlebockgdonceaaGreatDoorRows.lean that lists a variable, with what it lists TIED to the program's text (the seventh form; the later family's looks); each row that meets fmt, with fmt's text TOLD by the authors' own Lean function (tested against real Go, not proved from fmt's source: count such statements apart). THE CARD IS WHAT COUNTS. Prove the row's statement (the work); the ties are given (YtlebockgdonceaaGreatDoorTie.lean); close each card by the builder's one call (the guide's Derived/Test/ToyasCard.lean, 'card_holds'). Laid BY PROGRAM, IN A SANDBOX (cutbox-door.mjs). By AI agents, Wed Nov 11 2026. No macro, syntax, notation, axiom, sorry.
-/
import Derived.Test.YtlebockgdonceaaGreatDoorRows
import GoSem.ClaimSeven
namespace Go.Proofs.YtlebockgdonceaaGreatDoor
namespace Rows

/-- THE TIED CARD OF 'wicketlaw04.JtextParses'. -/
def jtextParsesCard : Claim7 := { stood := { row := jtextParsesRow, standIns := [], harness := (true, "56f449201d0c94af539847d41e08efb0b68c43ee2b8ec93458d4658985ffc8fc"), looks := true }, kinds := [], alts := [], laidByText := true, laidKinds := [.data, .data, .data, .data, .pinned], laidTests := true, laidLooks := .later }
def JtextParsesCardSaid : Prop := Claim7.holds Tryz.pinned (.plain (OpenSpec.ofChange jtextParsesSpec)) jtextParsesCard

/-- THE SECOND FORM's CARD OF 'wicketlaw04.JtextParses'. -/
def jtextParsesUptoCard : Claim7 := { stood := { row := jtextParsesUptoRow, standIns := [], harness := (true, "56f449201d0c94af539847d41e08efb0b68c43ee2b8ec93458d4658985ffc8fc"), looks := true }, kinds := [], alts := [], laidByText := true, laidKinds := [.data, .data, .data, .data, .pinned], laidTests := true, laidLooks := .later }
def JtextParsesUptoCardSaid : Prop := Claim7.holds Tryz.pinned (.plain (OpenSpec.upto jtextParsesSpec)) jtextParsesUptoCard
end Rows
end Go.Proofs.YtlebockgdonceaaGreatDoor
