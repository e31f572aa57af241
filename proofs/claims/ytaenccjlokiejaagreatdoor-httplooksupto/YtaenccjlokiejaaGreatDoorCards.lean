/-
  DERIVED. GIVEN WITH THE SEED: THE CARDS: each row of YtaenccjlokiejaaGreatDoorRows.lean that lists a variable, with what it lists TIED to the program's text (the seventh form; the later family's looks); each row that meets fmt, with fmt's text TOLD by the authors' own Lean function (tested against real Go, not proved from fmt's source: count such statements apart). THE CARD IS WHAT COUNTS. Prove the row's statement (the work); the ties are given (YtaenccjlokiejaaGreatDoorTie.lean); close each card by the builder's one call (the guide's Derived/Test/ToyasCard.lean, 'card_holds'). Laid BY PROGRAM, IN A SANDBOX (cutbox-door.mjs). By AI agents, Wed Nov 11 2026. No macro, syntax, notation, axiom, sorry.
-/
import Derived.Test.YtaenccjlokiejaaGreatDoorRows
import GoSem.ClaimSeven
namespace Go.Proofs.YtaenccjlokiejaaGreatDoor
namespace Rows

/-- THE TIED CARD OF 'wicketlaw15.HttpNames'. -/
def httpNamesCard : Claim7 := { stood := { row := httpNamesRow, standIns := [], harness := (true, "182affd6eb8cd82ff18ae90636069fe98fe27f48e4c4b72d802c10e680eea32d"), looks := true }, kinds := [], alts := [], laidByText := true, laidKinds := [.data, .data, .data, .data, .sentinel, .sentinel, .pinned], laidTests := true, laidLooks := .later }
def HttpNamesCardSaid : Prop := Claim7.holds Tryz.pinned (.plain (OpenSpec.ofChange httpNamesSpec)) httpNamesCard

/-- THE TIED CARD OF 'wicketlaw15.HttpRequests'. -/
def httpRequestsCard : Claim7 := { stood := { row := httpRequestsRow, standIns := [], harness := (true, "182affd6eb8cd82ff18ae90636069fe98fe27f48e4c4b72d802c10e680eea32d"), looks := true }, kinds := [], alts := [], laidByText := true, laidKinds := [.data, .data, .data, .data, .sentinel, .sentinel, .pinned], laidTests := true, laidLooks := .later }
def HttpRequestsCardSaid : Prop := Claim7.holds Tryz.pinned (.plain (OpenSpec.ofChange httpRequestsSpec)) httpRequestsCard

/-- THE TIED CARD OF 'wicketlaw15.HttpResponses'. -/
def httpResponsesCard : Claim7 := { stood := { row := httpResponsesRow, standIns := [], harness := (true, "182affd6eb8cd82ff18ae90636069fe98fe27f48e4c4b72d802c10e680eea32d"), looks := true }, kinds := [], alts := [], laidByText := true, laidKinds := [.data, .data, .data, .data, .sentinel, .sentinel, .pinned], laidTests := true, laidLooks := .later }
def HttpResponsesCardSaid : Prop := Claim7.holds Tryz.pinned (.plain (OpenSpec.ofChange httpResponsesSpec)) httpResponsesCard

/-- THE TIED CARD OF 'wicketlaw15.HttpPrints'. -/
def httpPrintsCard : Claim7 := { stood := { row := httpPrintsRow, standIns := [], harness := (true, "182affd6eb8cd82ff18ae90636069fe98fe27f48e4c4b72d802c10e680eea32d"), looks := true }, kinds := [], alts := [], laidByText := true, laidKinds := [.data, .data, .data, .data, .sentinel, .sentinel, .pinned], laidTests := true, laidLooks := .later }
def HttpPrintsCardSaid : Prop := Claim7.holds Tryz.pinned (.plain (OpenSpec.ofChange httpPrintsSpec)) httpPrintsCard

/-- THE TIED CARD OF 'wicketlaw15.HttpLooks'. -/
def httpLooksCard : Claim7 := { stood := { row := httpLooksRow, standIns := [], harness := (true, "182affd6eb8cd82ff18ae90636069fe98fe27f48e4c4b72d802c10e680eea32d"), looks := true }, kinds := [], alts := [], laidByText := true, laidKinds := [.data, .data, .data, .data, .sentinel, .sentinel, .pinned], laidTests := true, laidLooks := .later }
def HttpLooksCardSaid : Prop := Claim7.holds Tryz.pinned (.plain (OpenSpec.ofChange httpLooksSpec)) httpLooksCard

/-- THE TIED CARD OF 'wicketlaw15.HttpBack'. -/
def httpBackCard : Claim7 := { stood := { row := httpBackRow, standIns := [], harness := (true, "182affd6eb8cd82ff18ae90636069fe98fe27f48e4c4b72d802c10e680eea32d"), looks := true }, kinds := [], alts := [], laidByText := true, laidKinds := [.data, .data, .data, .data, .sentinel, .sentinel, .pinned], laidTests := true, laidLooks := .later }
def HttpBackCardSaid : Prop := Claim7.holds Tryz.pinned (.plain (OpenSpec.ofChange httpBackSpec)) httpBackCard

/-- THE TIED CARD OF 'wicketlaw15.HttpAgain'. -/
def httpAgainCard : Claim7 := { stood := { row := httpAgainRow, standIns := [], harness := (true, "182affd6eb8cd82ff18ae90636069fe98fe27f48e4c4b72d802c10e680eea32d"), looks := true }, kinds := [], alts := [], laidByText := true, laidKinds := [.data, .data, .data, .data, .sentinel, .sentinel, .pinned], laidTests := true, laidLooks := .later }
def HttpAgainCardSaid : Prop := Claim7.holds Tryz.pinned (.plain (OpenSpec.ofChange httpAgainSpec)) httpAgainCard

/-- THE TIED CARD OF 'wicketlaw15.HttpWhole'. -/
def httpWholeCard : Claim7 := { stood := { row := httpWholeRow, standIns := [], harness := (true, "182affd6eb8cd82ff18ae90636069fe98fe27f48e4c4b72d802c10e680eea32d"), looks := true }, kinds := [], alts := [], laidByText := true, laidKinds := [.data, .data, .data, .data, .sentinel, .sentinel, .pinned], laidTests := true, laidLooks := .later }
def HttpWholeCardSaid : Prop := Claim7.holds Tryz.pinned (.plain (OpenSpec.ofChange httpWholeSpec)) httpWholeCard

/-- THE TIED CARD OF 'wicketlaw15.HttpHead'. -/
def httpHeadCard : Claim7 := { stood := { row := httpHeadRow, standIns := [], harness := (true, "182affd6eb8cd82ff18ae90636069fe98fe27f48e4c4b72d802c10e680eea32d"), looks := true }, kinds := [], alts := [], laidByText := true, laidKinds := [.data, .data, .data, .data, .sentinel, .sentinel, .pinned], laidTests := true, laidLooks := .later }
def HttpHeadCardSaid : Prop := Claim7.holds Tryz.pinned (.plain (OpenSpec.ofChange httpHeadSpec)) httpHeadCard

/-- THE SECOND FORM's CARD OF 'wicketlaw15.HttpNames'. -/
def httpNamesUptoCard : Claim7 := { stood := { row := httpNamesUptoRow, standIns := [], harness := (true, "182affd6eb8cd82ff18ae90636069fe98fe27f48e4c4b72d802c10e680eea32d"), looks := true }, kinds := [], alts := [], laidByText := true, laidKinds := [.data, .data, .data, .data, .sentinel, .sentinel, .pinned], laidTests := true, laidLooks := .later }
def HttpNamesUptoCardSaid : Prop := Claim7.holds Tryz.pinned (.plain (OpenSpec.upto httpNamesSpec)) httpNamesUptoCard

/-- THE SECOND FORM's CARD OF 'wicketlaw15.HttpRequests'. -/
def httpRequestsUptoCard : Claim7 := { stood := { row := httpRequestsUptoRow, standIns := [], harness := (true, "182affd6eb8cd82ff18ae90636069fe98fe27f48e4c4b72d802c10e680eea32d"), looks := true }, kinds := [], alts := [], laidByText := true, laidKinds := [.data, .data, .data, .data, .sentinel, .sentinel, .pinned], laidTests := true, laidLooks := .later }
def HttpRequestsUptoCardSaid : Prop := Claim7.holds Tryz.pinned (.plain (OpenSpec.upto httpRequestsSpec)) httpRequestsUptoCard

/-- THE SECOND FORM's CARD OF 'wicketlaw15.HttpResponses'. -/
def httpResponsesUptoCard : Claim7 := { stood := { row := httpResponsesUptoRow, standIns := [], harness := (true, "182affd6eb8cd82ff18ae90636069fe98fe27f48e4c4b72d802c10e680eea32d"), looks := true }, kinds := [], alts := [], laidByText := true, laidKinds := [.data, .data, .data, .data, .sentinel, .sentinel, .pinned], laidTests := true, laidLooks := .later }
def HttpResponsesUptoCardSaid : Prop := Claim7.holds Tryz.pinned (.plain (OpenSpec.upto httpResponsesSpec)) httpResponsesUptoCard

/-- THE SECOND FORM's CARD OF 'wicketlaw15.HttpPrints'. -/
def httpPrintsUptoCard : Claim7 := { stood := { row := httpPrintsUptoRow, standIns := [], harness := (true, "182affd6eb8cd82ff18ae90636069fe98fe27f48e4c4b72d802c10e680eea32d"), looks := true }, kinds := [], alts := [], laidByText := true, laidKinds := [.data, .data, .data, .data, .sentinel, .sentinel, .pinned], laidTests := true, laidLooks := .later }
def HttpPrintsUptoCardSaid : Prop := Claim7.holds Tryz.pinned (.plain (OpenSpec.upto httpPrintsSpec)) httpPrintsUptoCard

/-- THE SECOND FORM's CARD OF 'wicketlaw15.HttpLooks'. -/
def httpLooksUptoCard : Claim7 := { stood := { row := httpLooksUptoRow, standIns := [], harness := (true, "182affd6eb8cd82ff18ae90636069fe98fe27f48e4c4b72d802c10e680eea32d"), looks := true }, kinds := [], alts := [], laidByText := true, laidKinds := [.data, .data, .data, .data, .sentinel, .sentinel, .pinned], laidTests := true, laidLooks := .later }
def HttpLooksUptoCardSaid : Prop := Claim7.holds Tryz.pinned (.plain (OpenSpec.upto httpLooksSpec)) httpLooksUptoCard

/-- THE SECOND FORM's CARD OF 'wicketlaw15.HttpBack'. -/
def httpBackUptoCard : Claim7 := { stood := { row := httpBackUptoRow, standIns := [], harness := (true, "182affd6eb8cd82ff18ae90636069fe98fe27f48e4c4b72d802c10e680eea32d"), looks := true }, kinds := [], alts := [], laidByText := true, laidKinds := [.data, .data, .data, .data, .sentinel, .sentinel, .pinned], laidTests := true, laidLooks := .later }
def HttpBackUptoCardSaid : Prop := Claim7.holds Tryz.pinned (.plain (OpenSpec.upto httpBackSpec)) httpBackUptoCard

/-- THE SECOND FORM's CARD OF 'wicketlaw15.HttpAgain'. -/
def httpAgainUptoCard : Claim7 := { stood := { row := httpAgainUptoRow, standIns := [], harness := (true, "182affd6eb8cd82ff18ae90636069fe98fe27f48e4c4b72d802c10e680eea32d"), looks := true }, kinds := [], alts := [], laidByText := true, laidKinds := [.data, .data, .data, .data, .sentinel, .sentinel, .pinned], laidTests := true, laidLooks := .later }
def HttpAgainUptoCardSaid : Prop := Claim7.holds Tryz.pinned (.plain (OpenSpec.upto httpAgainSpec)) httpAgainUptoCard

/-- THE SECOND FORM's CARD OF 'wicketlaw15.HttpWhole'. -/
def httpWholeUptoCard : Claim7 := { stood := { row := httpWholeUptoRow, standIns := [], harness := (true, "182affd6eb8cd82ff18ae90636069fe98fe27f48e4c4b72d802c10e680eea32d"), looks := true }, kinds := [], alts := [], laidByText := true, laidKinds := [.data, .data, .data, .data, .sentinel, .sentinel, .pinned], laidTests := true, laidLooks := .later }
def HttpWholeUptoCardSaid : Prop := Claim7.holds Tryz.pinned (.plain (OpenSpec.upto httpWholeSpec)) httpWholeUptoCard

/-- THE SECOND FORM's CARD OF 'wicketlaw15.HttpHead'. -/
def httpHeadUptoCard : Claim7 := { stood := { row := httpHeadUptoRow, standIns := [], harness := (true, "182affd6eb8cd82ff18ae90636069fe98fe27f48e4c4b72d802c10e680eea32d"), looks := true }, kinds := [], alts := [], laidByText := true, laidKinds := [.data, .data, .data, .data, .sentinel, .sentinel, .pinned], laidTests := true, laidLooks := .later }
def HttpHeadUptoCardSaid : Prop := Claim7.holds Tryz.pinned (.plain (OpenSpec.upto httpHeadSpec)) httpHeadUptoCard
end Rows
end Go.Proofs.YtaenccjlokiejaaGreatDoor
