/-
  NARROWER THAN 'FOR EVERY INPUT', by the rows' own cells (each row's printed sentence says how): CodesPieces: laid · CodesApart: laid · CodesNil: laid.
  DERIVED. THE GIVEN ROWS OF THIS SEAT. 3 by the template 'for every input the law returns true; each argument reads behind the call as it read before'; 0 by the template 'total and deterministic' (their statements: YtonnnolnkjahgabDoorTotals.lean).
  GIVEN WITH THE SEED: the statements are not yours to turn. If you find one false, say at which input.
  Laid BY PROGRAM, IN A SANDBOX (cutbox-rows.mjs): the forced cells as the released guide's own fill.sh prints them over the translation 0a152f6708e57d49… (all of the seat's roots in one cut). By AI agents, Wed Nov 11 2026. No macro, syntax, notation, axiom, sorry.
-/
import Derived.Test.YtonnnolnkjahgabDoorChecked
import GoSem.Claim
import GoSem.ClaimJoined
import GoSem.ClaimMapViews
import Derived.JoinedTies
import Derived.KernelRfl
namespace Go.Proofs.YtonnnolnkjahgabDoor
/- THE CELL 'sum', in the pinned program and in every row, IS THE sha256 OF THE DUMP (.gsa) THAT YtonnnolnkjahgabDoorProg.lean LOADS. Nothing in Lean hashes anything: it is a label: what it is worth is what the hold of that sum in a sandbox is worth. -/
noncomputable def Tryd.pinned : Pinned := { name := "ytonnnolnkjahgabdoor", sum := "0a152f6708e57d494ece0d244799620f5995765c7c446b1c95edea7eaeecc241", checked := Tryd.checked }
namespace Rows
def none {H : Type} : Left H := { results := [], args := [] }

/- WHAT THE LISTED PACKAGE-LEVEL VARIABLES READ AS WHEN THE CALL BEGINS. Each datum BY PROGRAM (the guide's laid-datum.mjs) off the statement by which the dump's own 'gosem.cut.vars' lays the variable. In a bare row this is a premise. The card (YtonnnolnkjahgabDoorCards.lean) ties it to the program's text. -/
def laid_wicket_codes_letters {H : Type} : DataW H := .agg [.lit (.int .u8 66), .lit (.int .u8 67), .lit (.int .u8 68), .lit (.int .u8 70), .lit (.int .u8 71), .lit (.int .u8 72), .lit (.int .u8 74), .lit (.int .u8 75), .lit (.int .u8 76), .lit (.int .u8 77), .lit (.int .u8 78), .lit (.int .u8 80), .lit (.int .u8 81), .lit (.int .u8 82), .lit (.int .u8 83), .lit (.int .u8 84), .lit (.int .u8 86), .lit (.int .u8 87), .lit (.int .u8 88), .lit (.int .u8 90)]

/-- 'wicketlaw09.CodesPieces': WHATEVER THE INPUT: true; the input reads as it did. -/
def codesPiecesSpec : ChangeSpec := { name := "codesPieces", fn := fun _ => fun
  | [d1, d2, d3] => { results := [.lit (.bool true)], args := [d1, d2, d3] }
  | _ => none }
def codesPiecesRow : OpenClaim := { program := "ytonnnolnkjahgabdoor", sum := "0a152f6708e57d494ece0d244799620f5995765c7c446b1c95edea7eaeecc241", func := "wicket/wicketlaw09.CodesPieces", spec := "codesPieces", inPlace := ["internal/bytealg.IndexByteString"], unfollowed := true, recurses := true, named := ["wicket/codes.letters"], apart := false, laid := [("wicket/codes.letters", laid_wicket_codes_letters)] }
def CodesPiecesSaid : Prop := codesPiecesRow.holds Tryd.pinned (OpenSpec.ofChange codesPiecesSpec)

/-- ITS FALSE NEIGHBOUR: 'it returns false'. Refute it at one input. -/
def codesPiecesWrong : ChangeSpec := { name := "codesPieces", fn := fun _ => fun
  | [d1, d2, d3] => { results := [.lit (.bool false)], args := [d1, d2, d3] }
  | _ => none }
def CodesPiecesWrongFalsely : Prop := codesPiecesRow.holds Tryd.pinned (OpenSpec.ofChange codesPiecesWrong)

/-- 'wicketlaw09.CodesApart': WHATEVER THE INPUT: true; the input reads as it did. -/
def codesApartSpec : ChangeSpec := { name := "codesApart", fn := fun _ => fun
  | [d1, d2] => { results := [.lit (.bool true)], args := [d1, d2] }
  | _ => none }
def codesApartRow : OpenClaim := { program := "ytonnnolnkjahgabdoor", sum := "0a152f6708e57d494ece0d244799620f5995765c7c446b1c95edea7eaeecc241", func := "wicket/wicketlaw09.CodesApart", spec := "codesApart", inPlace := ["internal/bytealg.IndexByteString"], unfollowed := true, recurses := true, named := ["wicket/codes.letters"], apart := false, laid := [("wicket/codes.letters", laid_wicket_codes_letters)] }
def CodesApartSaid : Prop := codesApartRow.holds Tryd.pinned (OpenSpec.ofChange codesApartSpec)

/-- ITS FALSE NEIGHBOUR: 'it returns false'. Refute it at one input. -/
def codesApartWrong : ChangeSpec := { name := "codesApart", fn := fun _ => fun
  | [d1, d2] => { results := [.lit (.bool false)], args := [d1, d2] }
  | _ => none }
def CodesApartWrongFalsely : Prop := codesApartRow.holds Tryd.pinned (OpenSpec.ofChange codesApartWrong)

/-- 'wicketlaw09.CodesNil': WHATEVER THE INPUT: true; the input reads as it did. -/
def codesNilSpec : ChangeSpec := { name := "codesNil", fn := fun _ => fun
  | [d] => { results := [.lit (.bool true)], args := [d] }
  | _ => none }
def codesNilRow : OpenClaim := { program := "ytonnnolnkjahgabdoor", sum := "0a152f6708e57d494ece0d244799620f5995765c7c446b1c95edea7eaeecc241", func := "wicket/wicketlaw09.CodesNil", spec := "codesNil", inPlace := ["internal/bytealg.IndexByteString"], unfollowed := true, recurses := true, named := ["wicket/codes.letters"], apart := false, laid := [("wicket/codes.letters", laid_wicket_codes_letters)] }
def CodesNilSaid : Prop := codesNilRow.holds Tryd.pinned (OpenSpec.ofChange codesNilSpec)

/-- ITS FALSE NEIGHBOUR: 'it returns false'. Refute it at one input. -/
def codesNilWrong : ChangeSpec := { name := "codesNil", fn := fun _ => fun
  | [d] => { results := [.lit (.bool false)], args := [d] }
  | _ => none }
def CodesNilWrongFalsely : Prop := codesNilRow.holds Tryd.pinned (OpenSpec.ofChange codesNilWrong)

/- THE SECOND FORM. 'bulk': how many values and letters a reading holds, each counted each time it is reached (what is shared counts as often as it is met; a slice's spare places count too). A statement '..UptoSaid' is the law's where the arguments, and the package variables that the reading takes, are together of bulk at most 1048576: NARROWER than '..Said'. Prove '..Said' where nothing that the law and all that it calls make is longer than what came in: it says more and counts as full. Else prove '..UptoSaid'. A law counts once. -/
mutual
def uptoBulk {H : Type} : DataW H → Nat
  | .lit (.string bytes) => bytes.length + 1
  | .lit _ => 1
  | .nil => 1
  | .ptr d => uptoBulk d + 1
  | .slice elems spare => uptoBulkAll elems + uptoBulkAll spare + 1
  | .agg parts => uptoBulkAll parts + 1
  | .iface _ d => uptoBulk d + 1
  | .map entries => uptoBulkEntries entries + 1
  | .held _ => 1
def uptoBulkAll {H : Type} : List (DataW H) → Nat
  | [] => 0
  | d :: r => uptoBulk d + uptoBulkAll r
def uptoBulkEntries {H : Type} : List (Lit × DataW H) → Nat
  | [] => 0
  | x :: r => uptoBulkEntry x + uptoBulkEntries r
def uptoBulkEntry {H : Type} : Lit × DataW H → Nat
  | (.string bytes, d) => bytes.length + uptoBulk d + 1
  | (_, d) => uptoBulk d + 1
 end
def uptoSmall : (H : Type) → List (DataW H) → Bool := fun _ ds => decide (uptoBulkAll ds ≤ 1048576)
def OpenSpec.upto (s : _root_.Go.ChangeSpec) : _root_.Go.OpenSpec := { _root_.Go.OpenSpec.ofChange s with cond := some uptoSmall }

/-- 'wicketlaw09.CodesPieces', WHERE WHAT IT READS IS OF BULK AT MOST 1048576: true; the input reads as it did. -/
def codesPiecesUptoRow : OpenClaim := { program := "ytonnnolnkjahgabdoor", sum := "0a152f6708e57d494ece0d244799620f5995765c7c446b1c95edea7eaeecc241", func := "wicket/wicketlaw09.CodesPieces", spec := "codesPieces", inPlace := ["internal/bytealg.IndexByteString"], unfollowed := true, recurses := true, named := ["wicket/codes.letters"], apart := false, laid := [("wicket/codes.letters", laid_wicket_codes_letters)], narrowed := true }
def CodesPiecesUptoSaid : Prop := codesPiecesUptoRow.holds Tryd.pinned (OpenSpec.upto codesPiecesSpec)

/-- 'wicketlaw09.CodesApart', WHERE WHAT IT READS IS OF BULK AT MOST 1048576: true; the input reads as it did. -/
def codesApartUptoRow : OpenClaim := { program := "ytonnnolnkjahgabdoor", sum := "0a152f6708e57d494ece0d244799620f5995765c7c446b1c95edea7eaeecc241", func := "wicket/wicketlaw09.CodesApart", spec := "codesApart", inPlace := ["internal/bytealg.IndexByteString"], unfollowed := true, recurses := true, named := ["wicket/codes.letters"], apart := false, laid := [("wicket/codes.letters", laid_wicket_codes_letters)], narrowed := true }
def CodesApartUptoSaid : Prop := codesApartUptoRow.holds Tryd.pinned (OpenSpec.upto codesApartSpec)

/-- 'wicketlaw09.CodesNil', WHERE WHAT IT READS IS OF BULK AT MOST 1048576: true; the input reads as it did. -/
def codesNilUptoRow : OpenClaim := { program := "ytonnnolnkjahgabdoor", sum := "0a152f6708e57d494ece0d244799620f5995765c7c446b1c95edea7eaeecc241", func := "wicket/wicketlaw09.CodesNil", spec := "codesNil", inPlace := ["internal/bytealg.IndexByteString"], unfollowed := true, recurses := true, named := ["wicket/codes.letters"], apart := false, laid := [("wicket/codes.letters", laid_wicket_codes_letters)], narrowed := true }
def CodesNilUptoSaid : Prop := codesNilUptoRow.holds Tryd.pinned (OpenSpec.upto codesNilSpec)

end Rows
end Go.Proofs.YtonnnolnkjahgabDoor
