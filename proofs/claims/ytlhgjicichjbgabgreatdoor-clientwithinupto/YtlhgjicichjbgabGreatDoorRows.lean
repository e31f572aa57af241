/-
  NARROWER THAN 'FOR EVERY INPUT', by the rows' own cells (each row's printed sentence says how): ClientShows: laid · ClientScopes: laid · ClientBack: laid · ClientProof: laid · ClientWelcome: laid · ClientWithin: laid.
  DERIVED. THE GIVEN ROWS OF THIS SEAT. 6 by the template 'for every input the law returns true; each argument reads behind the call as it read before'; 0 by the template 'total and deterministic' (their statements: YtlhgjicichjbgabGreatDoorTotals.lean).
  GIVEN WITH THE SEED: the statements are not yours to turn. If you find one false, say at which input.
  Laid BY PROGRAM, IN A SANDBOX (cutbox-rows.mjs): the forced cells as the released guide's own fill.sh prints them over the translation 22921966c3ebe3c1… (all of the seat's roots in one cut). By AI agents, Wed Nov 11 2026. No macro, syntax, notation, axiom, sorry.
-/
import Derived.Test.YtlhgjicichjbgabGreatDoorChecked
import GoSem.PinnedTables
import GoSem.Claim
import GoSem.ClaimJoined
import GoSem.ClaimMapViews
import Derived.JoinedTies
import Derived.KernelRfl
namespace Go.Proofs.YtlhgjicichjbgabGreatDoor
/- THE CELL 'sum', in the pinned program and in every row, IS THE sha256 OF THE DUMP (.gsa) THAT YtlhgjicichjbgabGreatDoorProg.lean LOADS. Nothing in Lean hashes anything: it is a label: what it is worth is what the hold of that sum in a sandbox is worth. -/
noncomputable def Tryz.pinned : Pinned := { name := "ytlhgjicichjbgabgreatdoor", sum := "22921966c3ebe3c1eebd373ac360266ba7410c5200bf827a52a0f929c5e9895c", checked := Tryz.checked }
namespace Rows
def none {H : Type} : Left H := { results := [], args := [] }

/- WHAT THE LISTED PACKAGE-LEVEL VARIABLES READ AS WHEN THE CALL BEGINS. Each datum BY PROGRAM (the guide's laid-datum.mjs) off the statement by which the dump's own 'gosem.cut.vars' lays the variable. In a bare row this is a premise. The card (YtlhgjicichjbgabGreatDoorCards.lean) ties it to the program's text. -/
def laid_unicode_utf8_acceptRanges {H : Type} : DataW H := .agg [.agg [.lit (.int .u8 128), .lit (.int .u8 191)], .agg [.lit (.int .u8 160), .lit (.int .u8 191)], .agg [.lit (.int .u8 128), .lit (.int .u8 159)], .agg [.lit (.int .u8 144), .lit (.int .u8 191)], .agg [.lit (.int .u8 128), .lit (.int .u8 143)], .agg [.lit (.int .u8 0), .lit (.int .u8 0)], .agg [.lit (.int .u8 0), .lit (.int .u8 0)], .agg [.lit (.int .u8 0), .lit (.int .u8 0)], .agg [.lit (.int .u8 0), .lit (.int .u8 0)], .agg [.lit (.int .u8 0), .lit (.int .u8 0)], .agg [.lit (.int .u8 0), .lit (.int .u8 0)], .agg [.lit (.int .u8 0), .lit (.int .u8 0)], .agg [.lit (.int .u8 0), .lit (.int .u8 0)], .agg [.lit (.int .u8 0), .lit (.int .u8 0)], .agg [.lit (.int .u8 0), .lit (.int .u8 0)], .agg [.lit (.int .u8 0), .lit (.int .u8 0)]]
/-- One of Go's own tables, pinned by name: the form's constant. -/
def laid_unicode_utf8_first : DataW Unit := Go.Pinned.utf8First
def laid_wicket_client_names {H : Type} : DataW H := .agg [.lit (.string [105, 100]), .lit (.string [115, 101, 99, 114, 101, 116]), .lit (.string [103, 114, 97, 110, 116, 115]), .lit (.string [112, 105, 110, 103]), .lit (.string [117, 114, 108]), .lit (.string [115, 99, 111, 112, 101])]

/-- 'wicketlaw11.ClientShows': WHATEVER THE INPUT: true; the input reads as it did. -/
def clientShowsSpec : ChangeSpec := { name := "clientShows", fn := fun _ => fun
  | [d1, d2, d3] => { results := [.lit (.bool true)], args := [d1, d2, d3] }
  | _ => none }
def clientShowsRow : OpenClaim := { program := "ytlhgjicichjbgabgreatdoor", sum := "22921966c3ebe3c1eebd373ac360266ba7410c5200bf827a52a0f929c5e9895c", func := "wicket/wicketlaw11.ClientShows", spec := "clientShows", inPlace := ["internal/bytealg.IndexByteString", "internal/bytealg.IndexString", "internal/bytealg.CountString", "internal/abi.NoEscape", "internal/bytealg.MakeNoZero"], unfollowed := true, recurses := true, named := ["internal/bytealg.MaxLen", "unicode/utf8.first", "unicode/utf8.acceptRanges"], apart := false, laid := [("unicode/utf8.acceptRanges", laid_unicode_utf8_acceptRanges), ("unicode/utf8.first", laid_unicode_utf8_first)] }
def ClientShowsSaid : Prop := clientShowsRow.holds Tryz.pinned (OpenSpec.ofChange clientShowsSpec)

/-- ITS FALSE NEIGHBOUR: 'it returns false'. Refute it at one input. -/
def clientShowsWrong : ChangeSpec := { name := "clientShows", fn := fun _ => fun
  | [d1, d2, d3] => { results := [.lit (.bool false)], args := [d1, d2, d3] }
  | _ => none }
def ClientShowsWrongFalsely : Prop := clientShowsRow.holds Tryz.pinned (OpenSpec.ofChange clientShowsWrong)

/-- 'wicketlaw11.ClientScopes': WHATEVER THE INPUT: true; the input reads as it did. -/
def clientScopesSpec : ChangeSpec := { name := "clientScopes", fn := fun _ => fun
  | [d1, d2] => { results := [.lit (.bool true)], args := [d1, d2] }
  | _ => none }
def clientScopesRow : OpenClaim := { program := "ytlhgjicichjbgabgreatdoor", sum := "22921966c3ebe3c1eebd373ac360266ba7410c5200bf827a52a0f929c5e9895c", func := "wicket/wicketlaw11.ClientScopes", spec := "clientScopes", inPlace := ["internal/abi.NoEscape", "internal/bytealg.MakeNoZero", "internal/bytealg.CountString", "internal/bytealg.IndexByteString", "internal/bytealg.IndexString"], unfollowed := true, recurses := true, named := ["unicode/utf8.first", "unicode/utf8.acceptRanges", "internal/bytealg.MaxLen"], apart := false, laid := [("unicode/utf8.acceptRanges", laid_unicode_utf8_acceptRanges), ("unicode/utf8.first", laid_unicode_utf8_first)] }
def ClientScopesSaid : Prop := clientScopesRow.holds Tryz.pinned (OpenSpec.ofChange clientScopesSpec)

/-- ITS FALSE NEIGHBOUR: 'it returns false'. Refute it at one input. -/
def clientScopesWrong : ChangeSpec := { name := "clientScopes", fn := fun _ => fun
  | [d1, d2] => { results := [.lit (.bool false)], args := [d1, d2] }
  | _ => none }
def ClientScopesWrongFalsely : Prop := clientScopesRow.holds Tryz.pinned (OpenSpec.ofChange clientScopesWrong)

/-- 'wicketlaw11.ClientBack': WHATEVER THE INPUT: true; the input reads as it did. -/
def clientBackSpec : ChangeSpec := { name := "clientBack", fn := fun _ => fun
  | [d1, d2] => { results := [.lit (.bool true)], args := [d1, d2] }
  | _ => none }
def clientBackRow : OpenClaim := { program := "ytlhgjicichjbgabgreatdoor", sum := "22921966c3ebe3c1eebd373ac360266ba7410c5200bf827a52a0f929c5e9895c", func := "wicket/wicketlaw11.ClientBack", spec := "clientBack", inPlace := ["internal/abi.NoEscape", "internal/bytealg.MakeNoZero", "internal/bytealg.CountString", "internal/bytealg.IndexByteString", "internal/bytealg.IndexString"], unfollowed := true, recurses := true, named := ["unicode/utf8.first", "unicode/utf8.acceptRanges", "internal/bytealg.MaxLen", "wicket/client.names"], apart := false, laid := [("unicode/utf8.acceptRanges", laid_unicode_utf8_acceptRanges), ("wicket/client.names", laid_wicket_client_names), ("unicode/utf8.first", laid_unicode_utf8_first)] }
def ClientBackSaid : Prop := clientBackRow.holds Tryz.pinned (OpenSpec.ofChange clientBackSpec)

/-- ITS FALSE NEIGHBOUR: 'it returns false'. Refute it at one input. -/
def clientBackWrong : ChangeSpec := { name := "clientBack", fn := fun _ => fun
  | [d1, d2] => { results := [.lit (.bool false)], args := [d1, d2] }
  | _ => none }
def ClientBackWrongFalsely : Prop := clientBackRow.holds Tryz.pinned (OpenSpec.ofChange clientBackWrong)

/-- 'wicketlaw11.ClientProof': WHATEVER THE INPUT: true; the input reads as it did. -/
def clientProofSpec : ChangeSpec := { name := "clientProof", fn := fun _ => fun
  | [d] => { results := [.lit (.bool true)], args := [d] }
  | _ => none }
def clientProofRow : OpenClaim := { program := "ytlhgjicichjbgabgreatdoor", sum := "22921966c3ebe3c1eebd373ac360266ba7410c5200bf827a52a0f929c5e9895c", func := "wicket/wicketlaw11.ClientProof", spec := "clientProof", inPlace := ["internal/bytealg.IndexByteString", "internal/bytealg.IndexString", "internal/bytealg.CountString", "internal/abi.NoEscape", "internal/bytealg.MakeNoZero"], unfollowed := true, recurses := true, named := ["internal/bytealg.MaxLen", "unicode/utf8.first", "unicode/utf8.acceptRanges"], apart := false, laid := [("unicode/utf8.acceptRanges", laid_unicode_utf8_acceptRanges), ("unicode/utf8.first", laid_unicode_utf8_first)] }
def ClientProofSaid : Prop := clientProofRow.holds Tryz.pinned (OpenSpec.ofChange clientProofSpec)

/-- ITS FALSE NEIGHBOUR: 'it returns false'. Refute it at one input. -/
def clientProofWrong : ChangeSpec := { name := "clientProof", fn := fun _ => fun
  | [d] => { results := [.lit (.bool false)], args := [d] }
  | _ => none }
def ClientProofWrongFalsely : Prop := clientProofRow.holds Tryz.pinned (OpenSpec.ofChange clientProofWrong)

/-- 'wicketlaw11.ClientWelcome': WHATEVER THE INPUT: true; the input reads as it did. -/
def clientWelcomeSpec : ChangeSpec := { name := "clientWelcome", fn := fun _ => fun
  | [d] => { results := [.lit (.bool true)], args := [d] }
  | _ => none }
def clientWelcomeRow : OpenClaim := { program := "ytlhgjicichjbgabgreatdoor", sum := "22921966c3ebe3c1eebd373ac360266ba7410c5200bf827a52a0f929c5e9895c", func := "wicket/wicketlaw11.ClientWelcome", spec := "clientWelcome", inPlace := ["internal/bytealg.CountString", "internal/bytealg.IndexByteString", "internal/bytealg.IndexString", "internal/abi.NoEscape", "internal/bytealg.MakeNoZero"], unfollowed := true, recurses := true, named := ["unicode/utf8.first", "unicode/utf8.acceptRanges", "internal/bytealg.MaxLen"], apart := false, laid := [("unicode/utf8.acceptRanges", laid_unicode_utf8_acceptRanges), ("unicode/utf8.first", laid_unicode_utf8_first)] }
def ClientWelcomeSaid : Prop := clientWelcomeRow.holds Tryz.pinned (OpenSpec.ofChange clientWelcomeSpec)

/-- ITS FALSE NEIGHBOUR: 'it returns false'. Refute it at one input. -/
def clientWelcomeWrong : ChangeSpec := { name := "clientWelcome", fn := fun _ => fun
  | [d] => { results := [.lit (.bool false)], args := [d] }
  | _ => none }
def ClientWelcomeWrongFalsely : Prop := clientWelcomeRow.holds Tryz.pinned (OpenSpec.ofChange clientWelcomeWrong)

/-- 'wicketlaw11.ClientWithin': WHATEVER THE INPUT: true; the input reads as it did. -/
def clientWithinSpec : ChangeSpec := { name := "clientWithin", fn := fun _ => fun
  | [d1, d2] => { results := [.lit (.bool true)], args := [d1, d2] }
  | _ => none }
def clientWithinRow : OpenClaim := { program := "ytlhgjicichjbgabgreatdoor", sum := "22921966c3ebe3c1eebd373ac360266ba7410c5200bf827a52a0f929c5e9895c", func := "wicket/wicketlaw11.ClientWithin", spec := "clientWithin", inPlace := ["internal/abi.NoEscape", "internal/bytealg.MakeNoZero", "internal/bytealg.CountString", "internal/bytealg.IndexByteString", "internal/bytealg.IndexString"], unfollowed := true, recurses := true, named := ["unicode/utf8.first", "unicode/utf8.acceptRanges", "internal/bytealg.MaxLen"], apart := false, laid := [("unicode/utf8.acceptRanges", laid_unicode_utf8_acceptRanges), ("unicode/utf8.first", laid_unicode_utf8_first)] }
def ClientWithinSaid : Prop := clientWithinRow.holds Tryz.pinned (OpenSpec.ofChange clientWithinSpec)

/-- ITS FALSE NEIGHBOUR: 'it returns false'. Refute it at one input. -/
def clientWithinWrong : ChangeSpec := { name := "clientWithin", fn := fun _ => fun
  | [d1, d2] => { results := [.lit (.bool false)], args := [d1, d2] }
  | _ => none }
def ClientWithinWrongFalsely : Prop := clientWithinRow.holds Tryz.pinned (OpenSpec.ofChange clientWithinWrong)

/- THE SECOND FORM. 'bulk': how many values and letters a reading holds, each counted each time it is reached (what is shared counts as often as it is met; a slice's spare places count too). A statement '..UptoSaid' is the law's where the arguments, and the package variables that the reading takes, are together of bulk at most 1048576: NARROWER than '..Said'. Prove '..Said' where nothing that the law and all that it calls make is longer than what came in: it says more and counts as full. Else prove '..UptoSaid'. A law counts once. -/
mutual
def uptoBulk {H : Type} : DataW H → Nat
  | .lit (.string bytes) => bytes.length + 1
  | .lit _ => 1
  | .nil => 1
  | .ptr d => uptoBulk d + 1
  | .slice elems spare => uptoBulkAll elems + uptoBulkAll spare + 1
  | .agg parts => uptoBulkAll parts + 1
  | .iface _ d => uptoBulk d + 1
  | .map entries => uptoBulkEntries entries + 1
  | .held _ => 1
def uptoBulkAll {H : Type} : List (DataW H) → Nat
  | [] => 0
  | d :: r => uptoBulk d + uptoBulkAll r
def uptoBulkEntries {H : Type} : List (Lit × DataW H) → Nat
  | [] => 0
  | x :: r => uptoBulkEntry x + uptoBulkEntries r
def uptoBulkEntry {H : Type} : Lit × DataW H → Nat
  | (.string bytes, d) => bytes.length + uptoBulk d + 1
  | (_, d) => uptoBulk d + 1
 end
def uptoSmall : (H : Type) → List (DataW H) → Bool := fun _ ds => decide (uptoBulkAll ds ≤ 1048576)
def OpenSpec.upto (s : _root_.Go.ChangeSpec) : _root_.Go.OpenSpec := { _root_.Go.OpenSpec.ofChange s with cond := some uptoSmall }

/-- 'wicketlaw11.ClientShows', WHERE WHAT IT READS IS OF BULK AT MOST 1048576: true; the input reads as it did. -/
def clientShowsUptoRow : OpenClaim := { program := "ytlhgjicichjbgabgreatdoor", sum := "22921966c3ebe3c1eebd373ac360266ba7410c5200bf827a52a0f929c5e9895c", func := "wicket/wicketlaw11.ClientShows", spec := "clientShows", inPlace := ["internal/bytealg.IndexByteString", "internal/bytealg.IndexString", "internal/bytealg.CountString", "internal/abi.NoEscape", "internal/bytealg.MakeNoZero"], unfollowed := true, recurses := true, named := ["internal/bytealg.MaxLen", "unicode/utf8.first", "unicode/utf8.acceptRanges"], apart := false, laid := [("unicode/utf8.acceptRanges", laid_unicode_utf8_acceptRanges), ("unicode/utf8.first", laid_unicode_utf8_first)], narrowed := true }
def ClientShowsUptoSaid : Prop := clientShowsUptoRow.holds Tryz.pinned (OpenSpec.upto clientShowsSpec)

/-- 'wicketlaw11.ClientScopes', WHERE WHAT IT READS IS OF BULK AT MOST 1048576: true; the input reads as it did. -/
def clientScopesUptoRow : OpenClaim := { program := "ytlhgjicichjbgabgreatdoor", sum := "22921966c3ebe3c1eebd373ac360266ba7410c5200bf827a52a0f929c5e9895c", func := "wicket/wicketlaw11.ClientScopes", spec := "clientScopes", inPlace := ["internal/abi.NoEscape", "internal/bytealg.MakeNoZero", "internal/bytealg.CountString", "internal/bytealg.IndexByteString", "internal/bytealg.IndexString"], unfollowed := true, recurses := true, named := ["unicode/utf8.first", "unicode/utf8.acceptRanges", "internal/bytealg.MaxLen"], apart := false, laid := [("unicode/utf8.acceptRanges", laid_unicode_utf8_acceptRanges), ("unicode/utf8.first", laid_unicode_utf8_first)], narrowed := true }
def ClientScopesUptoSaid : Prop := clientScopesUptoRow.holds Tryz.pinned (OpenSpec.upto clientScopesSpec)

/-- 'wicketlaw11.ClientBack', WHERE WHAT IT READS IS OF BULK AT MOST 1048576: true; the input reads as it did. -/
def clientBackUptoRow : OpenClaim := { program := "ytlhgjicichjbgabgreatdoor", sum := "22921966c3ebe3c1eebd373ac360266ba7410c5200bf827a52a0f929c5e9895c", func := "wicket/wicketlaw11.ClientBack", spec := "clientBack", inPlace := ["internal/abi.NoEscape", "internal/bytealg.MakeNoZero", "internal/bytealg.CountString", "internal/bytealg.IndexByteString", "internal/bytealg.IndexString"], unfollowed := true, recurses := true, named := ["unicode/utf8.first", "unicode/utf8.acceptRanges", "internal/bytealg.MaxLen", "wicket/client.names"], apart := false, laid := [("unicode/utf8.acceptRanges", laid_unicode_utf8_acceptRanges), ("wicket/client.names", laid_wicket_client_names), ("unicode/utf8.first", laid_unicode_utf8_first)], narrowed := true }
def ClientBackUptoSaid : Prop := clientBackUptoRow.holds Tryz.pinned (OpenSpec.upto clientBackSpec)

/-- 'wicketlaw11.ClientProof', WHERE WHAT IT READS IS OF BULK AT MOST 1048576: true; the input reads as it did. -/
def clientProofUptoRow : OpenClaim := { program := "ytlhgjicichjbgabgreatdoor", sum := "22921966c3ebe3c1eebd373ac360266ba7410c5200bf827a52a0f929c5e9895c", func := "wicket/wicketlaw11.ClientProof", spec := "clientProof", inPlace := ["internal/bytealg.IndexByteString", "internal/bytealg.IndexString", "internal/bytealg.CountString", "internal/abi.NoEscape", "internal/bytealg.MakeNoZero"], unfollowed := true, recurses := true, named := ["internal/bytealg.MaxLen", "unicode/utf8.first", "unicode/utf8.acceptRanges"], apart := false, laid := [("unicode/utf8.acceptRanges", laid_unicode_utf8_acceptRanges), ("unicode/utf8.first", laid_unicode_utf8_first)], narrowed := true }
def ClientProofUptoSaid : Prop := clientProofUptoRow.holds Tryz.pinned (OpenSpec.upto clientProofSpec)

/-- 'wicketlaw11.ClientWelcome', WHERE WHAT IT READS IS OF BULK AT MOST 1048576: true; the input reads as it did. -/
def clientWelcomeUptoRow : OpenClaim := { program := "ytlhgjicichjbgabgreatdoor", sum := "22921966c3ebe3c1eebd373ac360266ba7410c5200bf827a52a0f929c5e9895c", func := "wicket/wicketlaw11.ClientWelcome", spec := "clientWelcome", inPlace := ["internal/bytealg.CountString", "internal/bytealg.IndexByteString", "internal/bytealg.IndexString", "internal/abi.NoEscape", "internal/bytealg.MakeNoZero"], unfollowed := true, recurses := true, named := ["unicode/utf8.first", "unicode/utf8.acceptRanges", "internal/bytealg.MaxLen"], apart := false, laid := [("unicode/utf8.acceptRanges", laid_unicode_utf8_acceptRanges), ("unicode/utf8.first", laid_unicode_utf8_first)], narrowed := true }
def ClientWelcomeUptoSaid : Prop := clientWelcomeUptoRow.holds Tryz.pinned (OpenSpec.upto clientWelcomeSpec)

/-- 'wicketlaw11.ClientWithin', WHERE WHAT IT READS IS OF BULK AT MOST 1048576: true; the input reads as it did. -/
def clientWithinUptoRow : OpenClaim := { program := "ytlhgjicichjbgabgreatdoor", sum := "22921966c3ebe3c1eebd373ac360266ba7410c5200bf827a52a0f929c5e9895c", func := "wicket/wicketlaw11.ClientWithin", spec := "clientWithin", inPlace := ["internal/abi.NoEscape", "internal/bytealg.MakeNoZero", "internal/bytealg.CountString", "internal/bytealg.IndexByteString", "internal/bytealg.IndexString"], unfollowed := true, recurses := true, named := ["unicode/utf8.first", "unicode/utf8.acceptRanges", "internal/bytealg.MaxLen"], apart := false, laid := [("unicode/utf8.acceptRanges", laid_unicode_utf8_acceptRanges), ("unicode/utf8.first", laid_unicode_utf8_first)], narrowed := true }
def ClientWithinUptoSaid : Prop := clientWithinUptoRow.holds Tryz.pinned (OpenSpec.upto clientWithinSpec)

end Rows
end Go.Proofs.YtlhgjicichjbgabGreatDoor
