/-
  NARROWER THAN 'FOR EVERY INPUT', by the rows' own cells (each row's printed sentence says how): GuessTells: laid · TopCounts: laid · TopSums: laid · TopGuess: laid · TopLonger: laid · TopSpaces: laid · TopTwice: laid · TopRaw: laid · ShelfTells: laid.
  DERIVED. THE GIVEN ROWS OF THIS SEAT. 9 by the template 'for every input the law returns true; each argument reads behind the call as it read before'; 0 by the template 'total and deterministic' (their statements: YtoejenejleocdabGreatDoorTotals.lean).
  GIVEN WITH THE SEED: the statements are not yours to turn. If you find one false, say at which input.
  Laid BY PROGRAM, IN A SANDBOX (cutbox-rows.mjs): the forced cells as the released guide's own fill.sh prints them over the translation 443115a4cc6d9324… (all of the seat's roots in one cut). By AI agents, Wed Nov 11 2026. No macro, syntax, notation, axiom, sorry.
-/
import Derived.Test.YtoejenejleocdabGreatDoorChecked
import GoSem.PinnedTables
import GoSem.Claim
import GoSem.ClaimJoined
import GoSem.ClaimMapViews
import Derived.JoinedTies
import Derived.KernelRfl
namespace Go.Proofs.YtoejenejleocdabGreatDoor
/- THE CELL 'sum', in the pinned program and in every row, IS THE sha256 OF THE DUMP (.gsa) THAT YtoejenejleocdabGreatDoorProg.lean LOADS. Nothing in Lean hashes anything: it is a label: what it is worth is what the hold of that sum in a sandbox is worth. -/
noncomputable def Tryz.pinned : Pinned := { name := "ytoejenejleocdabgreatdoor", sum := "443115a4cc6d93248532e0beabfcf01597c1249048265571d0d0ce47977b08be", checked := Tryz.checked }
namespace Rows
def none {H : Type} : Left H := { results := [], args := [] }

/- WHAT THE LISTED PACKAGE-LEVEL VARIABLES READ AS WHEN THE CALL BEGINS. Each datum BY PROGRAM (the guide's laid-datum.mjs) off the statement by which the dump's own 'gosem.cut.vars' lays the variable. In a bare row this is a premise. The card (YtoejenejleocdabGreatDoorCards.lean) ties it to the program's text. -/
def laid_gleanings_guess_nothing {H : Type} : DataW H := .agg [.lit (.int .i64 0), .lit (.int .i64 1)]
def laid_unicode_utf8_acceptRanges {H : Type} : DataW H := .agg [.agg [.lit (.int .u8 128), .lit (.int .u8 191)], .agg [.lit (.int .u8 160), .lit (.int .u8 191)], .agg [.lit (.int .u8 128), .lit (.int .u8 159)], .agg [.lit (.int .u8 144), .lit (.int .u8 191)], .agg [.lit (.int .u8 128), .lit (.int .u8 143)], .agg [.lit (.int .u8 0), .lit (.int .u8 0)], .agg [.lit (.int .u8 0), .lit (.int .u8 0)], .agg [.lit (.int .u8 0), .lit (.int .u8 0)], .agg [.lit (.int .u8 0), .lit (.int .u8 0)], .agg [.lit (.int .u8 0), .lit (.int .u8 0)], .agg [.lit (.int .u8 0), .lit (.int .u8 0)], .agg [.lit (.int .u8 0), .lit (.int .u8 0)], .agg [.lit (.int .u8 0), .lit (.int .u8 0)], .agg [.lit (.int .u8 0), .lit (.int .u8 0)], .agg [.lit (.int .u8 0), .lit (.int .u8 0)], .agg [.lit (.int .u8 0), .lit (.int .u8 0)]]
/-- One of Go's own tables, pinned by name: the form's constant. -/
def laid_unicode_utf8_first : DataW Unit := Go.Pinned.utf8First

/-- 'gleaningslaw.GuessTells': WHATEVER THE INPUT: true; the input reads as it did. -/
def guessTellsSpec : ChangeSpec := { name := "guessTells", fn := fun _ => fun
  | [d1, d2, d3, d4, d5] => { results := [.lit (.bool true)], args := [d1, d2, d3, d4, d5] }
  | _ => none }
def guessTellsRow : OpenClaim := { program := "ytoejenejleocdabgreatdoor", sum := "443115a4cc6d93248532e0beabfcf01597c1249048265571d0d0ce47977b08be", func := "gleanings/gleaningslaw.GuessTells", spec := "guessTells", unfollowed := true, recurses := true, named := ["gleanings/guess.nothing"], apart := false, laid := [("gleanings/guess.nothing", laid_gleanings_guess_nothing)] }
def GuessTellsSaid : Prop := guessTellsRow.holds Tryz.pinned (OpenSpec.ofChange guessTellsSpec)

/-- ITS FALSE NEIGHBOUR: 'it returns false'. Refute it at one input. -/
def guessTellsWrong : ChangeSpec := { name := "guessTells", fn := fun _ => fun
  | [d1, d2, d3, d4, d5] => { results := [.lit (.bool false)], args := [d1, d2, d3, d4, d5] }
  | _ => none }
def GuessTellsWrongFalsely : Prop := guessTellsRow.holds Tryz.pinned (OpenSpec.ofChange guessTellsWrong)

/-- 'gleaningstop.TopCounts': WHATEVER THE INPUT: true; the input reads as it did. -/
def topCountsSpec : ChangeSpec := { name := "topCounts", fn := fun _ => fun
  | [d1, d2] => { results := [.lit (.bool true)], args := [d1, d2] }
  | _ => none }
def topCountsRow : OpenClaim := { program := "ytoejenejleocdabgreatdoor", sum := "443115a4cc6d93248532e0beabfcf01597c1249048265571d0d0ce47977b08be", func := "gleanings/gleaningstop.TopCounts", spec := "topCounts", inPlace := ["internal/bytealg.CountString", "internal/bytealg.IndexByteString", "internal/bytealg.IndexString"], unfollowed := true, recurses := true, named := ["unicode/utf8.first", "unicode/utf8.acceptRanges", "internal/bytealg.MaxLen", "gleanings/guess.nothing"], apart := false, laid := [("unicode/utf8.acceptRanges", laid_unicode_utf8_acceptRanges), ("gleanings/guess.nothing", laid_gleanings_guess_nothing), ("unicode/utf8.first", laid_unicode_utf8_first)] }
def TopCountsSaid : Prop := topCountsRow.holds Tryz.pinned (OpenSpec.ofChange topCountsSpec)

/-- ITS FALSE NEIGHBOUR: 'it returns false'. Refute it at one input. -/
def topCountsWrong : ChangeSpec := { name := "topCounts", fn := fun _ => fun
  | [d1, d2] => { results := [.lit (.bool false)], args := [d1, d2] }
  | _ => none }
def TopCountsWrongFalsely : Prop := topCountsRow.holds Tryz.pinned (OpenSpec.ofChange topCountsWrong)

/-- 'gleaningstop.TopSums': WHATEVER THE INPUT: true; the input reads as it did. -/
def topSumsSpec : ChangeSpec := { name := "topSums", fn := fun _ => fun
  | [d1, d2] => { results := [.lit (.bool true)], args := [d1, d2] }
  | _ => none }
def topSumsRow : OpenClaim := { program := "ytoejenejleocdabgreatdoor", sum := "443115a4cc6d93248532e0beabfcf01597c1249048265571d0d0ce47977b08be", func := "gleanings/gleaningstop.TopSums", spec := "topSums", inPlace := ["internal/bytealg.CountString", "internal/bytealg.IndexByteString", "internal/bytealg.IndexString"], unfollowed := true, recurses := true, named := ["unicode/utf8.first", "unicode/utf8.acceptRanges", "internal/bytealg.MaxLen", "gleanings/guess.nothing"], apart := false, laid := [("unicode/utf8.acceptRanges", laid_unicode_utf8_acceptRanges), ("gleanings/guess.nothing", laid_gleanings_guess_nothing), ("unicode/utf8.first", laid_unicode_utf8_first)] }
def TopSumsSaid : Prop := topSumsRow.holds Tryz.pinned (OpenSpec.ofChange topSumsSpec)

/-- ITS FALSE NEIGHBOUR: 'it returns false'. Refute it at one input. -/
def topSumsWrong : ChangeSpec := { name := "topSums", fn := fun _ => fun
  | [d1, d2] => { results := [.lit (.bool false)], args := [d1, d2] }
  | _ => none }
def TopSumsWrongFalsely : Prop := topSumsRow.holds Tryz.pinned (OpenSpec.ofChange topSumsWrong)

/-- 'gleaningstop.TopGuess': WHATEVER THE INPUT: true; the input reads as it did. -/
def topGuessSpec : ChangeSpec := { name := "topGuess", fn := fun _ => fun
  | [d1, d2] => { results := [.lit (.bool true)], args := [d1, d2] }
  | _ => none }
def topGuessRow : OpenClaim := { program := "ytoejenejleocdabgreatdoor", sum := "443115a4cc6d93248532e0beabfcf01597c1249048265571d0d0ce47977b08be", func := "gleanings/gleaningstop.TopGuess", spec := "topGuess", inPlace := ["internal/bytealg.CountString", "internal/bytealg.IndexByteString", "internal/bytealg.IndexString"], unfollowed := true, recurses := true, named := ["unicode/utf8.first", "unicode/utf8.acceptRanges", "internal/bytealg.MaxLen", "gleanings/guess.nothing"], apart := false, laid := [("unicode/utf8.acceptRanges", laid_unicode_utf8_acceptRanges), ("gleanings/guess.nothing", laid_gleanings_guess_nothing), ("unicode/utf8.first", laid_unicode_utf8_first)] }
def TopGuessSaid : Prop := topGuessRow.holds Tryz.pinned (OpenSpec.ofChange topGuessSpec)

/-- ITS FALSE NEIGHBOUR: 'it returns false'. Refute it at one input. -/
def topGuessWrong : ChangeSpec := { name := "topGuess", fn := fun _ => fun
  | [d1, d2] => { results := [.lit (.bool false)], args := [d1, d2] }
  | _ => none }
def TopGuessWrongFalsely : Prop := topGuessRow.holds Tryz.pinned (OpenSpec.ofChange topGuessWrong)

/-- 'gleaningstop.TopLonger': WHATEVER THE INPUT: true; the input reads as it did. -/
def topLongerSpec : ChangeSpec := { name := "topLonger", fn := fun _ => fun
  | [d1, d2, d3] => { results := [.lit (.bool true)], args := [d1, d2, d3] }
  | _ => none }
def topLongerRow : OpenClaim := { program := "ytoejenejleocdabgreatdoor", sum := "443115a4cc6d93248532e0beabfcf01597c1249048265571d0d0ce47977b08be", func := "gleanings/gleaningstop.TopLonger", spec := "topLonger", inPlace := ["internal/bytealg.CountString", "internal/bytealg.IndexByteString", "internal/bytealg.IndexString"], unfollowed := true, recurses := true, named := ["unicode/utf8.first", "unicode/utf8.acceptRanges", "internal/bytealg.MaxLen", "gleanings/guess.nothing"], apart := false, laid := [("unicode/utf8.acceptRanges", laid_unicode_utf8_acceptRanges), ("gleanings/guess.nothing", laid_gleanings_guess_nothing), ("unicode/utf8.first", laid_unicode_utf8_first)] }
def TopLongerSaid : Prop := topLongerRow.holds Tryz.pinned (OpenSpec.ofChange topLongerSpec)

/-- ITS FALSE NEIGHBOUR: 'it returns false'. Refute it at one input. -/
def topLongerWrong : ChangeSpec := { name := "topLonger", fn := fun _ => fun
  | [d1, d2, d3] => { results := [.lit (.bool false)], args := [d1, d2, d3] }
  | _ => none }
def TopLongerWrongFalsely : Prop := topLongerRow.holds Tryz.pinned (OpenSpec.ofChange topLongerWrong)

/-- 'gleaningstop.TopSpaces': WHATEVER THE INPUT: true; the input reads as it did. -/
def topSpacesSpec : ChangeSpec := { name := "topSpaces", fn := fun _ => fun
  | [d1, d2] => { results := [.lit (.bool true)], args := [d1, d2] }
  | _ => none }
def topSpacesRow : OpenClaim := { program := "ytoejenejleocdabgreatdoor", sum := "443115a4cc6d93248532e0beabfcf01597c1249048265571d0d0ce47977b08be", func := "gleanings/gleaningstop.TopSpaces", spec := "topSpaces", inPlace := ["internal/bytealg.CountString", "internal/bytealg.IndexByteString", "internal/bytealg.IndexString", "internal/abi.NoEscape", "internal/bytealg.MakeNoZero"], unfollowed := true, recurses := true, named := ["unicode/utf8.first", "unicode/utf8.acceptRanges", "internal/bytealg.MaxLen", "gleanings/guess.nothing"], apart := false, laid := [("unicode/utf8.acceptRanges", laid_unicode_utf8_acceptRanges), ("gleanings/guess.nothing", laid_gleanings_guess_nothing), ("unicode/utf8.first", laid_unicode_utf8_first)] }
def TopSpacesSaid : Prop := topSpacesRow.holds Tryz.pinned (OpenSpec.ofChange topSpacesSpec)

/-- ITS FALSE NEIGHBOUR: 'it returns false'. Refute it at one input. -/
def topSpacesWrong : ChangeSpec := { name := "topSpaces", fn := fun _ => fun
  | [d1, d2] => { results := [.lit (.bool false)], args := [d1, d2] }
  | _ => none }
def TopSpacesWrongFalsely : Prop := topSpacesRow.holds Tryz.pinned (OpenSpec.ofChange topSpacesWrong)

/-- 'gleaningstop.TopTwice': WHATEVER THE INPUT: true; the input reads as it did. -/
def topTwiceSpec : ChangeSpec := { name := "topTwice", fn := fun _ => fun
  | [d1, d2] => { results := [.lit (.bool true)], args := [d1, d2] }
  | _ => none }
def topTwiceRow : OpenClaim := { program := "ytoejenejleocdabgreatdoor", sum := "443115a4cc6d93248532e0beabfcf01597c1249048265571d0d0ce47977b08be", func := "gleanings/gleaningstop.TopTwice", spec := "topTwice", inPlace := ["internal/bytealg.CountString", "internal/bytealg.IndexByteString", "internal/bytealg.IndexString"], unfollowed := true, recurses := true, named := ["unicode/utf8.first", "unicode/utf8.acceptRanges", "internal/bytealg.MaxLen", "gleanings/guess.nothing"], apart := false, laid := [("unicode/utf8.acceptRanges", laid_unicode_utf8_acceptRanges), ("gleanings/guess.nothing", laid_gleanings_guess_nothing), ("unicode/utf8.first", laid_unicode_utf8_first)] }
def TopTwiceSaid : Prop := topTwiceRow.holds Tryz.pinned (OpenSpec.ofChange topTwiceSpec)

/-- ITS FALSE NEIGHBOUR: 'it returns false'. Refute it at one input. -/
def topTwiceWrong : ChangeSpec := { name := "topTwice", fn := fun _ => fun
  | [d1, d2] => { results := [.lit (.bool false)], args := [d1, d2] }
  | _ => none }
def TopTwiceWrongFalsely : Prop := topTwiceRow.holds Tryz.pinned (OpenSpec.ofChange topTwiceWrong)

/-- 'gleaningstop.TopRaw': WHATEVER THE INPUT: true; the input reads as it did. -/
def topRawSpec : ChangeSpec := { name := "topRaw", fn := fun _ => fun
  | [d1, d2, d3] => { results := [.lit (.bool true)], args := [d1, d2, d3] }
  | _ => none }
def topRawRow : OpenClaim := { program := "ytoejenejleocdabgreatdoor", sum := "443115a4cc6d93248532e0beabfcf01597c1249048265571d0d0ce47977b08be", func := "gleanings/gleaningstop.TopRaw", spec := "topRaw", inPlace := ["internal/bytealg.CountString", "internal/bytealg.IndexByteString", "internal/bytealg.IndexString"], unfollowed := true, recurses := true, named := ["unicode/utf8.first", "unicode/utf8.acceptRanges", "internal/bytealg.MaxLen", "gleanings/guess.nothing"], apart := false, laid := [("unicode/utf8.acceptRanges", laid_unicode_utf8_acceptRanges), ("gleanings/guess.nothing", laid_gleanings_guess_nothing), ("unicode/utf8.first", laid_unicode_utf8_first)] }
def TopRawSaid : Prop := topRawRow.holds Tryz.pinned (OpenSpec.ofChange topRawSpec)

/-- ITS FALSE NEIGHBOUR: 'it returns false'. Refute it at one input. -/
def topRawWrong : ChangeSpec := { name := "topRaw", fn := fun _ => fun
  | [d1, d2, d3] => { results := [.lit (.bool false)], args := [d1, d2, d3] }
  | _ => none }
def TopRawWrongFalsely : Prop := topRawRow.holds Tryz.pinned (OpenSpec.ofChange topRawWrong)

/-- 'gleaningslaw.ShelfTells': WHATEVER THE INPUT: true; the input reads as it did. -/
def shelfTellsSpec : ChangeSpec := { name := "shelfTells", fn := fun _ => fun
  | [d1, d2, d3] => { results := [.lit (.bool true)], args := [d1, d2, d3] }
  | _ => none }
def shelfTellsRow : OpenClaim := { program := "ytoejenejleocdabgreatdoor", sum := "443115a4cc6d93248532e0beabfcf01597c1249048265571d0d0ce47977b08be", func := "gleanings/gleaningslaw.ShelfTells", spec := "shelfTells", inPlace := ["internal/bytealg.CountString", "internal/bytealg.IndexByteString", "internal/bytealg.IndexString"], unfollowed := true, recurses := true, named := ["unicode/utf8.first", "unicode/utf8.acceptRanges", "internal/bytealg.MaxLen", "gleanings/guess.nothing"], apart := false, laid := [("unicode/utf8.acceptRanges", laid_unicode_utf8_acceptRanges), ("gleanings/guess.nothing", laid_gleanings_guess_nothing), ("unicode/utf8.first", laid_unicode_utf8_first)] }
def ShelfTellsSaid : Prop := shelfTellsRow.holds Tryz.pinned (OpenSpec.ofChange shelfTellsSpec)

/-- ITS FALSE NEIGHBOUR: 'it returns false'. Refute it at one input. -/
def shelfTellsWrong : ChangeSpec := { name := "shelfTells", fn := fun _ => fun
  | [d1, d2, d3] => { results := [.lit (.bool false)], args := [d1, d2, d3] }
  | _ => none }
def ShelfTellsWrongFalsely : Prop := shelfTellsRow.holds Tryz.pinned (OpenSpec.ofChange shelfTellsWrong)

/- THE SECOND FORM. 'bulk': how many values and letters a reading holds, each counted each time it is reached (what is shared counts as often as it is met; a slice's spare places count too). A statement '..UptoSaid' is the law's where the arguments, and the package variables that the reading takes, are together of bulk at most 1048576: NARROWER than '..Said'. Prove '..Said' where nothing that the law and all that it calls make is longer than what came in: it says more and counts as full. Else prove '..UptoSaid'. A law counts once. -/
mutual
def uptoBulk {H : Type} : DataW H → Nat
  | .lit (.string bytes) => bytes.length + 1
  | .lit _ => 1
  | .nil => 1
  | .ptr d => uptoBulk d + 1
  | .slice elems spare => uptoBulkAll elems + uptoBulkAll spare + 1
  | .agg parts => uptoBulkAll parts + 1
  | .iface _ d => uptoBulk d + 1
  | .map entries => uptoBulkEntries entries + 1
  | .held _ => 1
def uptoBulkAll {H : Type} : List (DataW H) → Nat
  | [] => 0
  | d :: r => uptoBulk d + uptoBulkAll r
def uptoBulkEntries {H : Type} : List (Lit × DataW H) → Nat
  | [] => 0
  | x :: r => uptoBulkEntry x + uptoBulkEntries r
def uptoBulkEntry {H : Type} : Lit × DataW H → Nat
  | (.string bytes, d) => bytes.length + uptoBulk d + 1
  | (_, d) => uptoBulk d + 1
 end
def uptoSmall : (H : Type) → List (DataW H) → Bool := fun _ ds => decide (uptoBulkAll ds ≤ 1048576)
def OpenSpec.upto (s : _root_.Go.ChangeSpec) : _root_.Go.OpenSpec := { _root_.Go.OpenSpec.ofChange s with cond := some uptoSmall }

/-- 'gleaningslaw.GuessTells', WHERE WHAT IT READS IS OF BULK AT MOST 1048576: true; the input reads as it did. -/
def guessTellsUptoRow : OpenClaim := { program := "ytoejenejleocdabgreatdoor", sum := "443115a4cc6d93248532e0beabfcf01597c1249048265571d0d0ce47977b08be", func := "gleanings/gleaningslaw.GuessTells", spec := "guessTells", unfollowed := true, recurses := true, named := ["gleanings/guess.nothing"], apart := false, laid := [("gleanings/guess.nothing", laid_gleanings_guess_nothing)], narrowed := true }
def GuessTellsUptoSaid : Prop := guessTellsUptoRow.holds Tryz.pinned (OpenSpec.upto guessTellsSpec)

/-- 'gleaningstop.TopCounts', WHERE WHAT IT READS IS OF BULK AT MOST 1048576: true; the input reads as it did. -/
def topCountsUptoRow : OpenClaim := { program := "ytoejenejleocdabgreatdoor", sum := "443115a4cc6d93248532e0beabfcf01597c1249048265571d0d0ce47977b08be", func := "gleanings/gleaningstop.TopCounts", spec := "topCounts", inPlace := ["internal/bytealg.CountString", "internal/bytealg.IndexByteString", "internal/bytealg.IndexString"], unfollowed := true, recurses := true, named := ["unicode/utf8.first", "unicode/utf8.acceptRanges", "internal/bytealg.MaxLen", "gleanings/guess.nothing"], apart := false, laid := [("unicode/utf8.acceptRanges", laid_unicode_utf8_acceptRanges), ("gleanings/guess.nothing", laid_gleanings_guess_nothing), ("unicode/utf8.first", laid_unicode_utf8_first)], narrowed := true }
def TopCountsUptoSaid : Prop := topCountsUptoRow.holds Tryz.pinned (OpenSpec.upto topCountsSpec)

/-- 'gleaningstop.TopSums', WHERE WHAT IT READS IS OF BULK AT MOST 1048576: true; the input reads as it did. -/
def topSumsUptoRow : OpenClaim := { program := "ytoejenejleocdabgreatdoor", sum := "443115a4cc6d93248532e0beabfcf01597c1249048265571d0d0ce47977b08be", func := "gleanings/gleaningstop.TopSums", spec := "topSums", inPlace := ["internal/bytealg.CountString", "internal/bytealg.IndexByteString", "internal/bytealg.IndexString"], unfollowed := true, recurses := true, named := ["unicode/utf8.first", "unicode/utf8.acceptRanges", "internal/bytealg.MaxLen", "gleanings/guess.nothing"], apart := false, laid := [("unicode/utf8.acceptRanges", laid_unicode_utf8_acceptRanges), ("gleanings/guess.nothing", laid_gleanings_guess_nothing), ("unicode/utf8.first", laid_unicode_utf8_first)], narrowed := true }
def TopSumsUptoSaid : Prop := topSumsUptoRow.holds Tryz.pinned (OpenSpec.upto topSumsSpec)

/-- 'gleaningstop.TopGuess', WHERE WHAT IT READS IS OF BULK AT MOST 1048576: true; the input reads as it did. -/
def topGuessUptoRow : OpenClaim := { program := "ytoejenejleocdabgreatdoor", sum := "443115a4cc6d93248532e0beabfcf01597c1249048265571d0d0ce47977b08be", func := "gleanings/gleaningstop.TopGuess", spec := "topGuess", inPlace := ["internal/bytealg.CountString", "internal/bytealg.IndexByteString", "internal/bytealg.IndexString"], unfollowed := true, recurses := true, named := ["unicode/utf8.first", "unicode/utf8.acceptRanges", "internal/bytealg.MaxLen", "gleanings/guess.nothing"], apart := false, laid := [("unicode/utf8.acceptRanges", laid_unicode_utf8_acceptRanges), ("gleanings/guess.nothing", laid_gleanings_guess_nothing), ("unicode/utf8.first", laid_unicode_utf8_first)], narrowed := true }
def TopGuessUptoSaid : Prop := topGuessUptoRow.holds Tryz.pinned (OpenSpec.upto topGuessSpec)

/-- 'gleaningstop.TopLonger', WHERE WHAT IT READS IS OF BULK AT MOST 1048576: true; the input reads as it did. -/
def topLongerUptoRow : OpenClaim := { program := "ytoejenejleocdabgreatdoor", sum := "443115a4cc6d93248532e0beabfcf01597c1249048265571d0d0ce47977b08be", func := "gleanings/gleaningstop.TopLonger", spec := "topLonger", inPlace := ["internal/bytealg.CountString", "internal/bytealg.IndexByteString", "internal/bytealg.IndexString"], unfollowed := true, recurses := true, named := ["unicode/utf8.first", "unicode/utf8.acceptRanges", "internal/bytealg.MaxLen", "gleanings/guess.nothing"], apart := false, laid := [("unicode/utf8.acceptRanges", laid_unicode_utf8_acceptRanges), ("gleanings/guess.nothing", laid_gleanings_guess_nothing), ("unicode/utf8.first", laid_unicode_utf8_first)], narrowed := true }
def TopLongerUptoSaid : Prop := topLongerUptoRow.holds Tryz.pinned (OpenSpec.upto topLongerSpec)

/-- 'gleaningstop.TopSpaces', WHERE WHAT IT READS IS OF BULK AT MOST 1048576: true; the input reads as it did. -/
def topSpacesUptoRow : OpenClaim := { program := "ytoejenejleocdabgreatdoor", sum := "443115a4cc6d93248532e0beabfcf01597c1249048265571d0d0ce47977b08be", func := "gleanings/gleaningstop.TopSpaces", spec := "topSpaces", inPlace := ["internal/bytealg.CountString", "internal/bytealg.IndexByteString", "internal/bytealg.IndexString", "internal/abi.NoEscape", "internal/bytealg.MakeNoZero"], unfollowed := true, recurses := true, named := ["unicode/utf8.first", "unicode/utf8.acceptRanges", "internal/bytealg.MaxLen", "gleanings/guess.nothing"], apart := false, laid := [("unicode/utf8.acceptRanges", laid_unicode_utf8_acceptRanges), ("gleanings/guess.nothing", laid_gleanings_guess_nothing), ("unicode/utf8.first", laid_unicode_utf8_first)], narrowed := true }
def TopSpacesUptoSaid : Prop := topSpacesUptoRow.holds Tryz.pinned (OpenSpec.upto topSpacesSpec)

/-- 'gleaningstop.TopTwice', WHERE WHAT IT READS IS OF BULK AT MOST 1048576: true; the input reads as it did. -/
def topTwiceUptoRow : OpenClaim := { program := "ytoejenejleocdabgreatdoor", sum := "443115a4cc6d93248532e0beabfcf01597c1249048265571d0d0ce47977b08be", func := "gleanings/gleaningstop.TopTwice", spec := "topTwice", inPlace := ["internal/bytealg.CountString", "internal/bytealg.IndexByteString", "internal/bytealg.IndexString"], unfollowed := true, recurses := true, named := ["unicode/utf8.first", "unicode/utf8.acceptRanges", "internal/bytealg.MaxLen", "gleanings/guess.nothing"], apart := false, laid := [("unicode/utf8.acceptRanges", laid_unicode_utf8_acceptRanges), ("gleanings/guess.nothing", laid_gleanings_guess_nothing), ("unicode/utf8.first", laid_unicode_utf8_first)], narrowed := true }
def TopTwiceUptoSaid : Prop := topTwiceUptoRow.holds Tryz.pinned (OpenSpec.upto topTwiceSpec)

/-- 'gleaningstop.TopRaw', WHERE WHAT IT READS IS OF BULK AT MOST 1048576: true; the input reads as it did. -/
def topRawUptoRow : OpenClaim := { program := "ytoejenejleocdabgreatdoor", sum := "443115a4cc6d93248532e0beabfcf01597c1249048265571d0d0ce47977b08be", func := "gleanings/gleaningstop.TopRaw", spec := "topRaw", inPlace := ["internal/bytealg.CountString", "internal/bytealg.IndexByteString", "internal/bytealg.IndexString"], unfollowed := true, recurses := true, named := ["unicode/utf8.first", "unicode/utf8.acceptRanges", "internal/bytealg.MaxLen", "gleanings/guess.nothing"], apart := false, laid := [("unicode/utf8.acceptRanges", laid_unicode_utf8_acceptRanges), ("gleanings/guess.nothing", laid_gleanings_guess_nothing), ("unicode/utf8.first", laid_unicode_utf8_first)], narrowed := true }
def TopRawUptoSaid : Prop := topRawUptoRow.holds Tryz.pinned (OpenSpec.upto topRawSpec)

/-- 'gleaningslaw.ShelfTells', WHERE WHAT IT READS IS OF BULK AT MOST 1048576: true; the input reads as it did. -/
def shelfTellsUptoRow : OpenClaim := { program := "ytoejenejleocdabgreatdoor", sum := "443115a4cc6d93248532e0beabfcf01597c1249048265571d0d0ce47977b08be", func := "gleanings/gleaningslaw.ShelfTells", spec := "shelfTells", inPlace := ["internal/bytealg.CountString", "internal/bytealg.IndexByteString", "internal/bytealg.IndexString"], unfollowed := true, recurses := true, named := ["unicode/utf8.first", "unicode/utf8.acceptRanges", "internal/bytealg.MaxLen", "gleanings/guess.nothing"], apart := false, laid := [("unicode/utf8.acceptRanges", laid_unicode_utf8_acceptRanges), ("gleanings/guess.nothing", laid_gleanings_guess_nothing), ("unicode/utf8.first", laid_unicode_utf8_first)], narrowed := true }
def ShelfTellsUptoSaid : Prop := shelfTellsUptoRow.holds Tryz.pinned (OpenSpec.upto shelfTellsSpec)

end Rows
end Go.Proofs.YtoejenejleocdabGreatDoor
