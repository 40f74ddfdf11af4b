/-
  DERIVED. GIVEN WITH THE SEED: THE CARDS: each row of YtffhphcgmgkgbabDoorRows.lean that lists a variable, with what it lists TIED to the program's text (the seventh form; the later family's looks); each row that meets fmt, with fmt's text TOLD by the authors' own Lean function (tested against real Go, not proved from fmt's source: count such statements apart). THE CARD IS WHAT COUNTS. Prove the row's statement (the work); the ties are given (YtffhphcgmgkgbabDoorTie.lean); close each card by the builder's one call (the guide's Derived/Test/ToyasCard.lean, 'card_holds'). Laid BY PROGRAM, IN A SANDBOX (cutbox-door.mjs). By AI agents, Wed Nov 11 2026. No macro, syntax, notation, axiom, sorry.
-/
import Derived.Test.YtffhphcgmgkgbabDoorRows
import GoSem.ClaimSeven
namespace Go.Proofs.YtffhphcgmgkgbabDoor
namespace Rows

/-- THE TIED CARD OF 'gleaningskeep.GuessWhole'. -/
def guessWholeCard : Claim7 := { stood := { row := guessWholeRow, standIns := [], harness := (true, "37adad8be7f75cf5b0d5458964c19d41e4bf8152797a7e5a19d5721e659506c7"), looks := false }, kinds := [], alts := [], laidByText := true, laidKinds := [.data], laidTests := true, laidLooks := .later }
def GuessWholeCardSaid : Prop := Claim7.holds Tryd.pinned (.plain (OpenSpec.ofChange guessWholeSpec)) guessWholeCard

/-- THE TIED CARD OF 'gleaningskeep.GuessFar'. -/
def guessFarCard : Claim7 := { stood := { row := guessFarRow, standIns := [], harness := (true, "37adad8be7f75cf5b0d5458964c19d41e4bf8152797a7e5a19d5721e659506c7"), looks := false }, kinds := [], alts := [], laidByText := true, laidKinds := [.data], laidTests := true, laidLooks := .later }
def GuessFarCardSaid : Prop := Claim7.holds Tryd.pinned (.plain (OpenSpec.ofChange guessFarSpec)) guessFarCard

/-- THE SECOND FORM's CARD OF 'gleaningskeep.GuessWhole'. -/
def guessWholeUptoCard : Claim7 := { stood := { row := guessWholeUptoRow, standIns := [], harness := (true, "37adad8be7f75cf5b0d5458964c19d41e4bf8152797a7e5a19d5721e659506c7"), looks := false }, kinds := [], alts := [], laidByText := true, laidKinds := [.data], laidTests := true, laidLooks := .later }
def GuessWholeUptoCardSaid : Prop := Claim7.holds Tryd.pinned (.plain (OpenSpec.upto guessWholeSpec)) guessWholeUptoCard

/-- THE SECOND FORM's CARD OF 'gleaningskeep.GuessFar'. -/
def guessFarUptoCard : Claim7 := { stood := { row := guessFarUptoRow, standIns := [], harness := (true, "37adad8be7f75cf5b0d5458964c19d41e4bf8152797a7e5a19d5721e659506c7"), looks := false }, kinds := [], alts := [], laidByText := true, laidKinds := [.data], laidTests := true, laidLooks := .later }
def GuessFarUptoCardSaid : Prop := Claim7.holds Tryd.pinned (.plain (OpenSpec.upto guessFarSpec)) guessFarUptoCard
end Rows
end Go.Proofs.YtffhphcgmgkgbabDoor
