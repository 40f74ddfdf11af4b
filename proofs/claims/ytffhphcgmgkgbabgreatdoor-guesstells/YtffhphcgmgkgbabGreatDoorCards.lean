/-
  DERIVED. GIVEN WITH THE SEED: THE CARDS: each row of YtffhphcgmgkgbabGreatDoorRows.lean that lists a variable, with what it lists TIED to the program's text (the seventh form; the later family's looks); each row that meets fmt, with fmt's text TOLD by the authors' own Lean function (tested against real Go, not proved from fmt's source: count such statements apart). THE CARD IS WHAT COUNTS. Prove the row's statement (the work); the ties are given (YtffhphcgmgkgbabGreatDoorTie.lean); close each card by the builder's one call (the guide's Derived/Test/ToyasCard.lean, 'card_holds'). Laid BY PROGRAM, IN A SANDBOX (cutbox-door.mjs). By AI agents, Wed Nov 11 2026. No macro, syntax, notation, axiom, sorry.
-/
import Derived.Test.YtffhphcgmgkgbabGreatDoorRows
import GoSem.ClaimSeven
namespace Go.Proofs.YtffhphcgmgkgbabGreatDoor
namespace Rows

/-- THE TIED CARD OF 'gleaningslaw.GuessTells'. -/
def guessTellsCard : Claim7 := { stood := { row := guessTellsRow, standIns := [], harness := (true, "8b46b7f259a610792296c2979daa13922a0591f099f3b272ad4a7eeff9acce0a"), looks := false }, kinds := [], alts := [], laidByText := true, laidKinds := [.data], laidTests := true, laidLooks := .later }
def GuessTellsCardSaid : Prop := Claim7.holds Tryz.pinned (.plain (OpenSpec.ofChange guessTellsSpec)) guessTellsCard

/-- THE SECOND FORM's CARD OF 'gleaningslaw.GuessTells'. -/
def guessTellsUptoCard : Claim7 := { stood := { row := guessTellsUptoRow, standIns := [], harness := (true, "8b46b7f259a610792296c2979daa13922a0591f099f3b272ad4a7eeff9acce0a"), looks := false }, kinds := [], alts := [], laidByText := true, laidKinds := [.data], laidTests := true, laidLooks := .later }
def GuessTellsUptoCardSaid : Prop := Claim7.holds Tryz.pinned (.plain (OpenSpec.upto guessTellsSpec)) guessTellsUptoCard
end Rows
end Go.Proofs.YtffhphcgmgkgbabGreatDoor
