/-
  DERIVED. GIVEN WITH THE SEED: THE CARDS: each row of YtoejenejleocdabGreatDoorRows.lean that lists a variable, with what it lists TIED to the program's text (the seventh form; the later family's looks); each row that meets fmt, with fmt's text TOLD by the authors' own Lean function (tested against real Go, not proved from fmt's source: count such statements apart). THE CARD IS WHAT COUNTS. Prove the row's statement (the work); the ties are given (YtoejenejleocdabGreatDoorTie.lean); close each card by the builder's one call (the guide's Derived/Test/ToyasCard.lean, 'card_holds'). Laid BY PROGRAM, IN A SANDBOX (cutbox-door.mjs). By AI agents, Wed Nov 11 2026. No macro, syntax, notation, axiom, sorry.
-/
import Derived.Test.YtoejenejleocdabGreatDoorRows
import GoSem.ClaimSeven
namespace Go.Proofs.YtoejenejleocdabGreatDoor
namespace Rows

/-- THE TIED CARD OF 'gleaningslaw.GuessTells'. -/
def guessTellsCard : Claim7 := { stood := { row := guessTellsRow, standIns := [], harness := (true, "ff213b8025819bb278f19177b005eb25167728a8628ba1eb20bd43049f93b9fd"), looks := false }, kinds := [], alts := [], laidByText := true, laidKinds := [.data], laidTests := true, laidLooks := .later }
def GuessTellsCardSaid : Prop := Claim7.holds Tryz.pinned (.plain (OpenSpec.ofChange guessTellsSpec)) guessTellsCard

/-- THE TIED CARD OF 'gleaningstop.TopCounts'. -/
def topCountsCard : Claim7 := { stood := { row := topCountsRow, standIns := [], harness := (true, "ff213b8025819bb278f19177b005eb25167728a8628ba1eb20bd43049f93b9fd"), looks := false }, kinds := [], alts := [], laidByText := true, laidKinds := [.data, .data, .pinned], laidTests := true, laidLooks := .later }
def TopCountsCardSaid : Prop := Claim7.holds Tryz.pinned (.plain (OpenSpec.ofChange topCountsSpec)) topCountsCard

/-- THE TIED CARD OF 'gleaningstop.TopSums'. -/
def topSumsCard : Claim7 := { stood := { row := topSumsRow, standIns := [], harness := (true, "ff213b8025819bb278f19177b005eb25167728a8628ba1eb20bd43049f93b9fd"), looks := false }, kinds := [], alts := [], laidByText := true, laidKinds := [.data, .data, .pinned], laidTests := true, laidLooks := .later }
def TopSumsCardSaid : Prop := Claim7.holds Tryz.pinned (.plain (OpenSpec.ofChange topSumsSpec)) topSumsCard

/-- THE TIED CARD OF 'gleaningstop.TopGuess'. -/
def topGuessCard : Claim7 := { stood := { row := topGuessRow, standIns := [], harness := (true, "ff213b8025819bb278f19177b005eb25167728a8628ba1eb20bd43049f93b9fd"), looks := false }, kinds := [], alts := [], laidByText := true, laidKinds := [.data, .data, .pinned], laidTests := true, laidLooks := .later }
def TopGuessCardSaid : Prop := Claim7.holds Tryz.pinned (.plain (OpenSpec.ofChange topGuessSpec)) topGuessCard

/-- THE TIED CARD OF 'gleaningstop.TopLonger'. -/
def topLongerCard : Claim7 := { stood := { row := topLongerRow, standIns := [], harness := (true, "ff213b8025819bb278f19177b005eb25167728a8628ba1eb20bd43049f93b9fd"), looks := false }, kinds := [], alts := [], laidByText := true, laidKinds := [.data, .data, .pinned], laidTests := true, laidLooks := .later }
def TopLongerCardSaid : Prop := Claim7.holds Tryz.pinned (.plain (OpenSpec.ofChange topLongerSpec)) topLongerCard

/-- THE TIED CARD OF 'gleaningstop.TopSpaces'. -/
def topSpacesCard : Claim7 := { stood := { row := topSpacesRow, standIns := [], harness := (true, "ff213b8025819bb278f19177b005eb25167728a8628ba1eb20bd43049f93b9fd"), looks := false }, kinds := [], alts := [], laidByText := true, laidKinds := [.data, .data, .pinned], laidTests := true, laidLooks := .later }
def TopSpacesCardSaid : Prop := Claim7.holds Tryz.pinned (.plain (OpenSpec.ofChange topSpacesSpec)) topSpacesCard

/-- THE TIED CARD OF 'gleaningstop.TopTwice'. -/
def topTwiceCard : Claim7 := { stood := { row := topTwiceRow, standIns := [], harness := (true, "ff213b8025819bb278f19177b005eb25167728a8628ba1eb20bd43049f93b9fd"), looks := false }, kinds := [], alts := [], laidByText := true, laidKinds := [.data, .data, .pinned], laidTests := true, laidLooks := .later }
def TopTwiceCardSaid : Prop := Claim7.holds Tryz.pinned (.plain (OpenSpec.ofChange topTwiceSpec)) topTwiceCard

/-- THE TIED CARD OF 'gleaningstop.TopRaw'. -/
def topRawCard : Claim7 := { stood := { row := topRawRow, standIns := [], harness := (true, "ff213b8025819bb278f19177b005eb25167728a8628ba1eb20bd43049f93b9fd"), looks := false }, kinds := [], alts := [], laidByText := true, laidKinds := [.data, .data, .pinned], laidTests := true, laidLooks := .later }
def TopRawCardSaid : Prop := Claim7.holds Tryz.pinned (.plain (OpenSpec.ofChange topRawSpec)) topRawCard

/-- THE TIED CARD OF 'gleaningslaw.ShelfTells'. -/
def shelfTellsCard : Claim7 := { stood := { row := shelfTellsRow, standIns := [], harness := (true, "ff213b8025819bb278f19177b005eb25167728a8628ba1eb20bd43049f93b9fd"), looks := false }, kinds := [], alts := [], laidByText := true, laidKinds := [.data, .data, .pinned], laidTests := true, laidLooks := .later }
def ShelfTellsCardSaid : Prop := Claim7.holds Tryz.pinned (.plain (OpenSpec.ofChange shelfTellsSpec)) shelfTellsCard

/-- THE SECOND FORM's CARD OF 'gleaningslaw.GuessTells'. -/
def guessTellsUptoCard : Claim7 := { stood := { row := guessTellsUptoRow, standIns := [], harness := (true, "ff213b8025819bb278f19177b005eb25167728a8628ba1eb20bd43049f93b9fd"), looks := false }, kinds := [], alts := [], laidByText := true, laidKinds := [.data], laidTests := true, laidLooks := .later }
def GuessTellsUptoCardSaid : Prop := Claim7.holds Tryz.pinned (.plain (OpenSpec.upto guessTellsSpec)) guessTellsUptoCard

/-- THE SECOND FORM's CARD OF 'gleaningstop.TopCounts'. -/
def topCountsUptoCard : Claim7 := { stood := { row := topCountsUptoRow, standIns := [], harness := (true, "ff213b8025819bb278f19177b005eb25167728a8628ba1eb20bd43049f93b9fd"), looks := false }, kinds := [], alts := [], laidByText := true, laidKinds := [.data, .data, .pinned], laidTests := true, laidLooks := .later }
def TopCountsUptoCardSaid : Prop := Claim7.holds Tryz.pinned (.plain (OpenSpec.upto topCountsSpec)) topCountsUptoCard

/-- THE SECOND FORM's CARD OF 'gleaningstop.TopSums'. -/
def topSumsUptoCard : Claim7 := { stood := { row := topSumsUptoRow, standIns := [], harness := (true, "ff213b8025819bb278f19177b005eb25167728a8628ba1eb20bd43049f93b9fd"), looks := false }, kinds := [], alts := [], laidByText := true, laidKinds := [.data, .data, .pinned], laidTests := true, laidLooks := .later }
def TopSumsUptoCardSaid : Prop := Claim7.holds Tryz.pinned (.plain (OpenSpec.upto topSumsSpec)) topSumsUptoCard

/-- THE SECOND FORM's CARD OF 'gleaningstop.TopGuess'. -/
def topGuessUptoCard : Claim7 := { stood := { row := topGuessUptoRow, standIns := [], harness := (true, "ff213b8025819bb278f19177b005eb25167728a8628ba1eb20bd43049f93b9fd"), looks := false }, kinds := [], alts := [], laidByText := true, laidKinds := [.data, .data, .pinned], laidTests := true, laidLooks := .later }
def TopGuessUptoCardSaid : Prop := Claim7.holds Tryz.pinned (.plain (OpenSpec.upto topGuessSpec)) topGuessUptoCard

/-- THE SECOND FORM's CARD OF 'gleaningstop.TopLonger'. -/
def topLongerUptoCard : Claim7 := { stood := { row := topLongerUptoRow, standIns := [], harness := (true, "ff213b8025819bb278f19177b005eb25167728a8628ba1eb20bd43049f93b9fd"), looks := false }, kinds := [], alts := [], laidByText := true, laidKinds := [.data, .data, .pinned], laidTests := true, laidLooks := .later }
def TopLongerUptoCardSaid : Prop := Claim7.holds Tryz.pinned (.plain (OpenSpec.upto topLongerSpec)) topLongerUptoCard

/-- THE SECOND FORM's CARD OF 'gleaningstop.TopSpaces'. -/
def topSpacesUptoCard : Claim7 := { stood := { row := topSpacesUptoRow, standIns := [], harness := (true, "ff213b8025819bb278f19177b005eb25167728a8628ba1eb20bd43049f93b9fd"), looks := false }, kinds := [], alts := [], laidByText := true, laidKinds := [.data, .data, .pinned], laidTests := true, laidLooks := .later }
def TopSpacesUptoCardSaid : Prop := Claim7.holds Tryz.pinned (.plain (OpenSpec.upto topSpacesSpec)) topSpacesUptoCard

/-- THE SECOND FORM's CARD OF 'gleaningstop.TopTwice'. -/
def topTwiceUptoCard : Claim7 := { stood := { row := topTwiceUptoRow, standIns := [], harness := (true, "ff213b8025819bb278f19177b005eb25167728a8628ba1eb20bd43049f93b9fd"), looks := false }, kinds := [], alts := [], laidByText := true, laidKinds := [.data, .data, .pinned], laidTests := true, laidLooks := .later }
def TopTwiceUptoCardSaid : Prop := Claim7.holds Tryz.pinned (.plain (OpenSpec.upto topTwiceSpec)) topTwiceUptoCard

/-- THE SECOND FORM's CARD OF 'gleaningstop.TopRaw'. -/
def topRawUptoCard : Claim7 := { stood := { row := topRawUptoRow, standIns := [], harness := (true, "ff213b8025819bb278f19177b005eb25167728a8628ba1eb20bd43049f93b9fd"), looks := false }, kinds := [], alts := [], laidByText := true, laidKinds := [.data, .data, .pinned], laidTests := true, laidLooks := .later }
def TopRawUptoCardSaid : Prop := Claim7.holds Tryz.pinned (.plain (OpenSpec.upto topRawSpec)) topRawUptoCard

/-- THE SECOND FORM's CARD OF 'gleaningslaw.ShelfTells'. -/
def shelfTellsUptoCard : Claim7 := { stood := { row := shelfTellsUptoRow, standIns := [], harness := (true, "ff213b8025819bb278f19177b005eb25167728a8628ba1eb20bd43049f93b9fd"), looks := false }, kinds := [], alts := [], laidByText := true, laidKinds := [.data, .data, .pinned], laidTests := true, laidLooks := .later }
def ShelfTellsUptoCardSaid : Prop := Claim7.holds Tryz.pinned (.plain (OpenSpec.upto shelfTellsSpec)) shelfTellsUptoCard
end Rows
end Go.Proofs.YtoejenejleocdabGreatDoor
