/-
  NARROWER THAN 'FOR EVERY INPUT', by the rows' own cells (each row's printed sentence says how): CodesNames: laid · CodesDraws: laid · CodesShows: laid · CodesHandles: laid · CodesTyped: laid · CodesAll: laid.
  DERIVED. THE GIVEN ROWS OF THIS SEAT. 6 by the template 'for every input the law returns true; each argument reads behind the call as it read before'; 0 by the template 'total and deterministic' (their statements: YtonnnolnkjahgaaDoorTotals.lean).
  GIVEN WITH THE SEED: the statements are not yours to turn. If you find one false, say at which input.
  Laid BY PROGRAM, IN A SANDBOX (cutbox-rows.mjs): the forced cells as the released guide's own fill.sh prints them over the translation cf2e6dec802e7ced… (all of the seat's roots in one cut). By AI agents, Wed Nov 11 2026. No macro, syntax, notation, axiom, sorry.
-/
import Derived.Test.YtonnnolnkjahgaaDoorChecked
import GoSem.Claim
import GoSem.ClaimJoined
import GoSem.ClaimMapViews
import Derived.JoinedTies
import Derived.KernelRfl
namespace Go.Proofs.YtonnnolnkjahgaaDoor
/- THE CELL 'sum', in the pinned program and in every row, IS THE sha256 OF THE DUMP (.gsa) THAT YtonnnolnkjahgaaDoorProg.lean LOADS. Nothing in Lean hashes anything: it is a label: what it is worth is what the hold of that sum in a sandbox is worth. -/
noncomputable def Tryd.pinned : Pinned := { name := "ytonnnolnkjahgaadoor", sum := "cf2e6dec802e7ced844182cd41883fa781bb56a312c6cd90583089a896152d6e", checked := Tryd.checked }
namespace Rows
def none {H : Type} : Left H := { results := [], args := [] }

/- WHAT THE LISTED PACKAGE-LEVEL VARIABLES READ AS WHEN THE CALL BEGINS. Each datum BY PROGRAM (the guide's laid-datum.mjs) off the statement by which the dump's own 'gosem.cut.vars' lays the variable. In a bare row this is a premise. The card (YtonnnolnkjahgaaDoorCards.lean) ties it to the program's text. -/
def laid_wicket_codes_letters {H : Type} : DataW H := .agg [.lit (.int .u8 66), .lit (.int .u8 67), .lit (.int .u8 68), .lit (.int .u8 70), .lit (.int .u8 71), .lit (.int .u8 72), .lit (.int .u8 74), .lit (.int .u8 75), .lit (.int .u8 76), .lit (.int .u8 77), .lit (.int .u8 78), .lit (.int .u8 80), .lit (.int .u8 81), .lit (.int .u8 82), .lit (.int .u8 83), .lit (.int .u8 84), .lit (.int .u8 86), .lit (.int .u8 87), .lit (.int .u8 88), .lit (.int .u8 90)]
def laid_wicket_digest_roots {H : Type} : DataW H := .agg [.lit (.int .u32 1116352408), .lit (.int .u32 1899447441), .lit (.int .u32 3049323471), .lit (.int .u32 3921009573), .lit (.int .u32 961987163), .lit (.int .u32 1508970993), .lit (.int .u32 2453635748), .lit (.int .u32 2870763221), .lit (.int .u32 3624381080), .lit (.int .u32 310598401), .lit (.int .u32 607225278), .lit (.int .u32 1426881987), .lit (.int .u32 1925078388), .lit (.int .u32 2162078206), .lit (.int .u32 2614888103), .lit (.int .u32 3248222580), .lit (.int .u32 3835390401), .lit (.int .u32 4022224774), .lit (.int .u32 264347078), .lit (.int .u32 604807628), .lit (.int .u32 770255983), .lit (.int .u32 1249150122), .lit (.int .u32 1555081692), .lit (.int .u32 1996064986), .lit (.int .u32 2554220882), .lit (.int .u32 2821834349), .lit (.int .u32 2952996808), .lit (.int .u32 3210313671), .lit (.int .u32 3336571891), .lit (.int .u32 3584528711), .lit (.int .u32 113926993), .lit (.int .u32 338241895), .lit (.int .u32 666307205), .lit (.int .u32 773529912), .lit (.int .u32 1294757372), .lit (.int .u32 1396182291), .lit (.int .u32 1695183700), .lit (.int .u32 1986661051), .lit (.int .u32 2177026350), .lit (.int .u32 2456956037), .lit (.int .u32 2730485921), .lit (.int .u32 2820302411), .lit (.int .u32 3259730800), .lit (.int .u32 3345764771), .lit (.int .u32 3516065817), .lit (.int .u32 3600352804), .lit (.int .u32 4094571909), .lit (.int .u32 275423344), .lit (.int .u32 430227734), .lit (.int .u32 506948616), .lit (.int .u32 659060556), .lit (.int .u32 883997877), .lit (.int .u32 958139571), .lit (.int .u32 1322822218), .lit (.int .u32 1537002063), .lit (.int .u32 1747873779), .lit (.int .u32 1955562222), .lit (.int .u32 2024104815), .lit (.int .u32 2227730452), .lit (.int .u32 2361852424), .lit (.int .u32 2428436474), .lit (.int .u32 2756734187), .lit (.int .u32 3204031479), .lit (.int .u32 3329325298)]
def laid_wicket_wicketref02_roots {H : Type} : DataW H := .agg [.lit (.int .u32 1116352408), .lit (.int .u32 1899447441), .lit (.int .u32 3049323471), .lit (.int .u32 3921009573), .lit (.int .u32 961987163), .lit (.int .u32 1508970993), .lit (.int .u32 2453635748), .lit (.int .u32 2870763221), .lit (.int .u32 3624381080), .lit (.int .u32 310598401), .lit (.int .u32 607225278), .lit (.int .u32 1426881987), .lit (.int .u32 1925078388), .lit (.int .u32 2162078206), .lit (.int .u32 2614888103), .lit (.int .u32 3248222580), .lit (.int .u32 3835390401), .lit (.int .u32 4022224774), .lit (.int .u32 264347078), .lit (.int .u32 604807628), .lit (.int .u32 770255983), .lit (.int .u32 1249150122), .lit (.int .u32 1555081692), .lit (.int .u32 1996064986), .lit (.int .u32 2554220882), .lit (.int .u32 2821834349), .lit (.int .u32 2952996808), .lit (.int .u32 3210313671), .lit (.int .u32 3336571891), .lit (.int .u32 3584528711), .lit (.int .u32 113926993), .lit (.int .u32 338241895), .lit (.int .u32 666307205), .lit (.int .u32 773529912), .lit (.int .u32 1294757372), .lit (.int .u32 1396182291), .lit (.int .u32 1695183700), .lit (.int .u32 1986661051), .lit (.int .u32 2177026350), .lit (.int .u32 2456956037), .lit (.int .u32 2730485921), .lit (.int .u32 2820302411), .lit (.int .u32 3259730800), .lit (.int .u32 3345764771), .lit (.int .u32 3516065817), .lit (.int .u32 3600352804), .lit (.int .u32 4094571909), .lit (.int .u32 275423344), .lit (.int .u32 430227734), .lit (.int .u32 506948616), .lit (.int .u32 659060556), .lit (.int .u32 883997877), .lit (.int .u32 958139571), .lit (.int .u32 1322822218), .lit (.int .u32 1537002063), .lit (.int .u32 1747873779), .lit (.int .u32 1955562222), .lit (.int .u32 2024104815), .lit (.int .u32 2227730452), .lit (.int .u32 2361852424), .lit (.int .u32 2428436474), .lit (.int .u32 2756734187), .lit (.int .u32 3204031479), .lit (.int .u32 3329325298)]

/-- 'wicketlaw09.CodesNames': WHATEVER THE INPUT: true; the input reads as it did. -/
def codesNamesSpec : ChangeSpec := { name := "codesNames", fn := fun _ => fun
  | [] => { results := [.lit (.bool true)], args := [] }
  | _ => none }
def codesNamesRow : OpenClaim := { program := "ytonnnolnkjahgaadoor", sum := "cf2e6dec802e7ced844182cd41883fa781bb56a312c6cd90583089a896152d6e", func := "wicket/wicketlaw09.CodesNames", spec := "codesNames", inPlace := ["internal/bytealg.IndexByteString"], unfollowed := true, recurses := true, named := ["wicket/codes.letters"], apart := false, laid := [("wicket/codes.letters", laid_wicket_codes_letters)] }
def CodesNamesSaid : Prop := codesNamesRow.holds Tryd.pinned (OpenSpec.ofChange codesNamesSpec)

/-- ITS FALSE NEIGHBOUR: 'it returns false'. Refute it at one input. -/
def codesNamesWrong : ChangeSpec := { name := "codesNames", fn := fun _ => fun
  | [] => { results := [.lit (.bool false)], args := [] }
  | _ => none }
def CodesNamesWrongFalsely : Prop := codesNamesRow.holds Tryd.pinned (OpenSpec.ofChange codesNamesWrong)

/-- 'wicketlaw09.CodesDraws': WHATEVER THE INPUT: true; the input reads as it did. -/
def codesDrawsSpec : ChangeSpec := { name := "codesDraws", fn := fun _ => fun
  | [d1, d2] => { results := [.lit (.bool true)], args := [d1, d2] }
  | _ => none }
def codesDrawsRow : OpenClaim := { program := "ytonnnolnkjahgaadoor", sum := "cf2e6dec802e7ced844182cd41883fa781bb56a312c6cd90583089a896152d6e", func := "wicket/wicketlaw09.CodesDraws", spec := "codesDraws", inPlace := ["internal/bytealg.IndexByteString"], unfollowed := true, recurses := true, named := ["wicket/codes.letters"], apart := false, laid := [("wicket/codes.letters", laid_wicket_codes_letters)] }
def CodesDrawsSaid : Prop := codesDrawsRow.holds Tryd.pinned (OpenSpec.ofChange codesDrawsSpec)

/-- ITS FALSE NEIGHBOUR: 'it returns false'. Refute it at one input. -/
def codesDrawsWrong : ChangeSpec := { name := "codesDraws", fn := fun _ => fun
  | [d1, d2] => { results := [.lit (.bool false)], args := [d1, d2] }
  | _ => none }
def CodesDrawsWrongFalsely : Prop := codesDrawsRow.holds Tryd.pinned (OpenSpec.ofChange codesDrawsWrong)

/-- 'wicketlaw09.CodesShows': WHATEVER THE INPUT: true; the input reads as it did. -/
def codesShowsSpec : ChangeSpec := { name := "codesShows", fn := fun _ => fun
  | [d] => { results := [.lit (.bool true)], args := [d] }
  | _ => none }
def codesShowsRow : OpenClaim := { program := "ytonnnolnkjahgaadoor", sum := "cf2e6dec802e7ced844182cd41883fa781bb56a312c6cd90583089a896152d6e", func := "wicket/wicketlaw09.CodesShows", spec := "codesShows", inPlace := ["internal/bytealg.IndexByteString"], unfollowed := true, recurses := true, named := ["wicket/codes.letters"], apart := false, laid := [("wicket/codes.letters", laid_wicket_codes_letters)] }
def CodesShowsSaid : Prop := codesShowsRow.holds Tryd.pinned (OpenSpec.ofChange codesShowsSpec)

/-- ITS FALSE NEIGHBOUR: 'it returns false'. Refute it at one input. -/
def codesShowsWrong : ChangeSpec := { name := "codesShows", fn := fun _ => fun
  | [d] => { results := [.lit (.bool false)], args := [d] }
  | _ => none }
def CodesShowsWrongFalsely : Prop := codesShowsRow.holds Tryd.pinned (OpenSpec.ofChange codesShowsWrong)

/-- 'wicketlaw09.CodesHandles': WHATEVER THE INPUT: true; the input reads as it did. -/
def codesHandlesSpec : ChangeSpec := { name := "codesHandles", fn := fun _ => fun
  | [d1, d2, d3] => { results := [.lit (.bool true)], args := [d1, d2, d3] }
  | _ => none }
def codesHandlesRow : OpenClaim := { program := "ytonnnolnkjahgaadoor", sum := "cf2e6dec802e7ced844182cd41883fa781bb56a312c6cd90583089a896152d6e", func := "wicket/wicketlaw09.CodesHandles", spec := "codesHandles", inPlace := ["internal/bytealg.IndexByteString"], unfollowed := true, recurses := true, named := ["wicket/digest.roots", "wicket/wicketref02.roots", "wicket/codes.letters"], apart := false, laid := [("wicket/digest.roots", laid_wicket_digest_roots), ("wicket/wicketref02.roots", laid_wicket_wicketref02_roots), ("wicket/codes.letters", laid_wicket_codes_letters)] }
def CodesHandlesSaid : Prop := codesHandlesRow.holds Tryd.pinned (OpenSpec.ofChange codesHandlesSpec)

/-- ITS FALSE NEIGHBOUR: 'it returns false'. Refute it at one input. -/
def codesHandlesWrong : ChangeSpec := { name := "codesHandles", fn := fun _ => fun
  | [d1, d2, d3] => { results := [.lit (.bool false)], args := [d1, d2, d3] }
  | _ => none }
def CodesHandlesWrongFalsely : Prop := codesHandlesRow.holds Tryd.pinned (OpenSpec.ofChange codesHandlesWrong)

/-- 'wicketlaw09.CodesTyped': WHATEVER THE INPUT: true; the input reads as it did. -/
def codesTypedSpec : ChangeSpec := { name := "codesTyped", fn := fun _ => fun
  | [d1, d2] => { results := [.lit (.bool true)], args := [d1, d2] }
  | _ => none }
def codesTypedRow : OpenClaim := { program := "ytonnnolnkjahgaadoor", sum := "cf2e6dec802e7ced844182cd41883fa781bb56a312c6cd90583089a896152d6e", func := "wicket/wicketlaw09.CodesTyped", spec := "codesTyped", inPlace := ["internal/bytealg.IndexByteString"], unfollowed := true, recurses := true, named := ["wicket/codes.letters"], apart := false, laid := [("wicket/codes.letters", laid_wicket_codes_letters)] }
def CodesTypedSaid : Prop := codesTypedRow.holds Tryd.pinned (OpenSpec.ofChange codesTypedSpec)

/-- ITS FALSE NEIGHBOUR: 'it returns false'. Refute it at one input. -/
def codesTypedWrong : ChangeSpec := { name := "codesTyped", fn := fun _ => fun
  | [d1, d2] => { results := [.lit (.bool false)], args := [d1, d2] }
  | _ => none }
def CodesTypedWrongFalsely : Prop := codesTypedRow.holds Tryd.pinned (OpenSpec.ofChange codesTypedWrong)

/-- 'wicketlaw09.CodesAll': WHATEVER THE INPUT: true; the input reads as it did. -/
def codesAllSpec : ChangeSpec := { name := "codesAll", fn := fun _ => fun
  | [d1, d2] => { results := [.lit (.bool true)], args := [d1, d2] }
  | _ => none }
def codesAllRow : OpenClaim := { program := "ytonnnolnkjahgaadoor", sum := "cf2e6dec802e7ced844182cd41883fa781bb56a312c6cd90583089a896152d6e", func := "wicket/wicketlaw09.CodesAll", spec := "codesAll", inPlace := ["internal/bytealg.IndexByteString"], unfollowed := true, recurses := true, named := ["wicket/codes.letters"], apart := false, laid := [("wicket/codes.letters", laid_wicket_codes_letters)] }
def CodesAllSaid : Prop := codesAllRow.holds Tryd.pinned (OpenSpec.ofChange codesAllSpec)

/-- ITS FALSE NEIGHBOUR: 'it returns false'. Refute it at one input. -/
def codesAllWrong : ChangeSpec := { name := "codesAll", fn := fun _ => fun
  | [d1, d2] => { results := [.lit (.bool false)], args := [d1, d2] }
  | _ => none }
def CodesAllWrongFalsely : Prop := codesAllRow.holds Tryd.pinned (OpenSpec.ofChange codesAllWrong)

/- THE SECOND FORM. 'bulk': how many values and letters a reading holds, each counted each time it is reached (what is shared counts as often as it is met; a slice's spare places count too). A statement '..UptoSaid' is the law's where the arguments, and the package variables that the reading takes, are together of bulk at most 1048576: NARROWER than '..Said'. Prove '..Said' where nothing that the law and all that it calls make is longer than what came in: it says more and counts as full. Else prove '..UptoSaid'. A law counts once. -/
mutual
def uptoBulk {H : Type} : DataW H → Nat
  | .lit (.string bytes) => bytes.length + 1
  | .lit _ => 1
  | .nil => 1
  | .ptr d => uptoBulk d + 1
  | .slice elems spare => uptoBulkAll elems + uptoBulkAll spare + 1
  | .agg parts => uptoBulkAll parts + 1
  | .iface _ d => uptoBulk d + 1
  | .map entries => uptoBulkEntries entries + 1
  | .held _ => 1
def uptoBulkAll {H : Type} : List (DataW H) → Nat
  | [] => 0
  | d :: r => uptoBulk d + uptoBulkAll r
def uptoBulkEntries {H : Type} : List (Lit × DataW H) → Nat
  | [] => 0
  | x :: r => uptoBulkEntry x + uptoBulkEntries r
def uptoBulkEntry {H : Type} : Lit × DataW H → Nat
  | (.string bytes, d) => bytes.length + uptoBulk d + 1
  | (_, d) => uptoBulk d + 1
 end
def uptoSmall : (H : Type) → List (DataW H) → Bool := fun _ ds => decide (uptoBulkAll ds ≤ 1048576)
def OpenSpec.upto (s : _root_.Go.ChangeSpec) : _root_.Go.OpenSpec := { _root_.Go.OpenSpec.ofChange s with cond := some uptoSmall }

/-- 'wicketlaw09.CodesNames', WHERE WHAT IT READS IS OF BULK AT MOST 1048576: true; the input reads as it did. -/
def codesNamesUptoRow : OpenClaim := { program := "ytonnnolnkjahgaadoor", sum := "cf2e6dec802e7ced844182cd41883fa781bb56a312c6cd90583089a896152d6e", func := "wicket/wicketlaw09.CodesNames", spec := "codesNames", inPlace := ["internal/bytealg.IndexByteString"], unfollowed := true, recurses := true, named := ["wicket/codes.letters"], apart := false, laid := [("wicket/codes.letters", laid_wicket_codes_letters)], narrowed := true }
def CodesNamesUptoSaid : Prop := codesNamesUptoRow.holds Tryd.pinned (OpenSpec.upto codesNamesSpec)

/-- 'wicketlaw09.CodesDraws', WHERE WHAT IT READS IS OF BULK AT MOST 1048576: true; the input reads as it did. -/
def codesDrawsUptoRow : OpenClaim := { program := "ytonnnolnkjahgaadoor", sum := "cf2e6dec802e7ced844182cd41883fa781bb56a312c6cd90583089a896152d6e", func := "wicket/wicketlaw09.CodesDraws", spec := "codesDraws", inPlace := ["internal/bytealg.IndexByteString"], unfollowed := true, recurses := true, named := ["wicket/codes.letters"], apart := false, laid := [("wicket/codes.letters", laid_wicket_codes_letters)], narrowed := true }
def CodesDrawsUptoSaid : Prop := codesDrawsUptoRow.holds Tryd.pinned (OpenSpec.upto codesDrawsSpec)

/-- 'wicketlaw09.CodesShows', WHERE WHAT IT READS IS OF BULK AT MOST 1048576: true; the input reads as it did. -/
def codesShowsUptoRow : OpenClaim := { program := "ytonnnolnkjahgaadoor", sum := "cf2e6dec802e7ced844182cd41883fa781bb56a312c6cd90583089a896152d6e", func := "wicket/wicketlaw09.CodesShows", spec := "codesShows", inPlace := ["internal/bytealg.IndexByteString"], unfollowed := true, recurses := true, named := ["wicket/codes.letters"], apart := false, laid := [("wicket/codes.letters", laid_wicket_codes_letters)], narrowed := true }
def CodesShowsUptoSaid : Prop := codesShowsUptoRow.holds Tryd.pinned (OpenSpec.upto codesShowsSpec)

/-- 'wicketlaw09.CodesHandles', WHERE WHAT IT READS IS OF BULK AT MOST 1048576: true; the input reads as it did. -/
def codesHandlesUptoRow : OpenClaim := { program := "ytonnnolnkjahgaadoor", sum := "cf2e6dec802e7ced844182cd41883fa781bb56a312c6cd90583089a896152d6e", func := "wicket/wicketlaw09.CodesHandles", spec := "codesHandles", inPlace := ["internal/bytealg.IndexByteString"], unfollowed := true, recurses := true, named := ["wicket/digest.roots", "wicket/wicketref02.roots", "wicket/codes.letters"], apart := false, laid := [("wicket/digest.roots", laid_wicket_digest_roots), ("wicket/wicketref02.roots", laid_wicket_wicketref02_roots), ("wicket/codes.letters", laid_wicket_codes_letters)], narrowed := true }
def CodesHandlesUptoSaid : Prop := codesHandlesUptoRow.holds Tryd.pinned (OpenSpec.upto codesHandlesSpec)

/-- 'wicketlaw09.CodesTyped', WHERE WHAT IT READS IS OF BULK AT MOST 1048576: true; the input reads as it did. -/
def codesTypedUptoRow : OpenClaim := { program := "ytonnnolnkjahgaadoor", sum := "cf2e6dec802e7ced844182cd41883fa781bb56a312c6cd90583089a896152d6e", func := "wicket/wicketlaw09.CodesTyped", spec := "codesTyped", inPlace := ["internal/bytealg.IndexByteString"], unfollowed := true, recurses := true, named := ["wicket/codes.letters"], apart := false, laid := [("wicket/codes.letters", laid_wicket_codes_letters)], narrowed := true }
def CodesTypedUptoSaid : Prop := codesTypedUptoRow.holds Tryd.pinned (OpenSpec.upto codesTypedSpec)

/-- 'wicketlaw09.CodesAll', WHERE WHAT IT READS IS OF BULK AT MOST 1048576: true; the input reads as it did. -/
def codesAllUptoRow : OpenClaim := { program := "ytonnnolnkjahgaadoor", sum := "cf2e6dec802e7ced844182cd41883fa781bb56a312c6cd90583089a896152d6e", func := "wicket/wicketlaw09.CodesAll", spec := "codesAll", inPlace := ["internal/bytealg.IndexByteString"], unfollowed := true, recurses := true, named := ["wicket/codes.letters"], apart := false, laid := [("wicket/codes.letters", laid_wicket_codes_letters)], narrowed := true }
def CodesAllUptoSaid : Prop := codesAllUptoRow.holds Tryd.pinned (OpenSpec.upto codesAllSpec)

end Rows
end Go.Proofs.YtonnnolnkjahgaaDoor
