/-
  NARROWER THAN 'FOR EVERY INPUT', by the rows' own cells (each row's printed sentence says how): GuessWhole: laid · GuessFar: laid.
  DERIVED. THE GIVEN ROWS OF THIS SEAT. 2 by the template 'for every input the law returns true; each argument reads behind the call as it read before'; 0 by the template 'total and deterministic' (their statements: YtffhphcgmgkgbabDoorTotals.lean).
  GIVEN WITH THE SEED: the statements are not yours to turn. If you find one false, say at which input.
  Laid BY PROGRAM, IN A SANDBOX (cutbox-rows.mjs): the forced cells as the released guide's own fill.sh prints them over the translation 85c601444e2c82d6… (all of the seat's roots in one cut). By AI agents, Wed Nov 11 2026. No macro, syntax, notation, axiom, sorry.
-/
import Derived.Test.YtffhphcgmgkgbabDoorChecked
import GoSem.Claim
import GoSem.ClaimJoined
import GoSem.ClaimMapViews
import Derived.JoinedTies
import Derived.KernelRfl
namespace Go.Proofs.YtffhphcgmgkgbabDoor
/- THE CELL 'sum', in the pinned program and in every row, IS THE sha256 OF THE DUMP (.gsa) THAT YtffhphcgmgkgbabDoorProg.lean LOADS. Nothing in Lean hashes anything: it is a label: what it is worth is what the hold of that sum in a sandbox is worth. -/
noncomputable def Tryd.pinned : Pinned := { name := "ytffhphcgmgkgbabdoor", sum := "85c601444e2c82d65e0e953735ccd1f9d8211b278e27ec3fdaa22b20f9fa8668", checked := Tryd.checked }
namespace Rows
def none {H : Type} : Left H := { results := [], args := [] }

/- WHAT THE LISTED PACKAGE-LEVEL VARIABLES READ AS WHEN THE CALL BEGINS. Each datum BY PROGRAM (the guide's laid-datum.mjs) off the statement by which the dump's own 'gosem.cut.vars' lays the variable. In a bare row this is a premise. The card (YtffhphcgmgkgbabDoorCards.lean) ties it to the program's text. -/
def laid_gleanings_guess_nothing {H : Type} : DataW H := .agg [.lit (.int .i64 0), .lit (.int .i64 1)]

/-- 'gleaningskeep.GuessWhole': WHATEVER THE INPUT: true; the input reads as it did. -/
def guessWholeSpec : ChangeSpec := { name := "guessWhole", fn := fun _ => fun
  | [d1, d2] => { results := [.lit (.bool true)], args := [d1, d2] }
  | _ => none }
def guessWholeRow : OpenClaim := { program := "ytffhphcgmgkgbabdoor", sum := "85c601444e2c82d65e0e953735ccd1f9d8211b278e27ec3fdaa22b20f9fa8668", func := "gleanings/gleaningskeep.GuessWhole", spec := "guessWhole", unfollowed := true, recurses := true, named := ["gleanings/guess.nothing"], apart := false, laid := [("gleanings/guess.nothing", laid_gleanings_guess_nothing)] }
def GuessWholeSaid : Prop := guessWholeRow.holds Tryd.pinned (OpenSpec.ofChange guessWholeSpec)

/-- ITS FALSE NEIGHBOUR: 'it returns false'. Refute it at one input. -/
def guessWholeWrong : ChangeSpec := { name := "guessWhole", fn := fun _ => fun
  | [d1, d2] => { results := [.lit (.bool false)], args := [d1, d2] }
  | _ => none }
def GuessWholeWrongFalsely : Prop := guessWholeRow.holds Tryd.pinned (OpenSpec.ofChange guessWholeWrong)

/-- 'gleaningskeep.GuessFar': WHATEVER THE INPUT: true; the input reads as it did. -/
def guessFarSpec : ChangeSpec := { name := "guessFar", fn := fun _ => fun
  | [d1, d2, d3, d4] => { results := [.lit (.bool true)], args := [d1, d2, d3, d4] }
  | _ => none }
def guessFarRow : OpenClaim := { program := "ytffhphcgmgkgbabdoor", sum := "85c601444e2c82d65e0e953735ccd1f9d8211b278e27ec3fdaa22b20f9fa8668", func := "gleanings/gleaningskeep.GuessFar", spec := "guessFar", unfollowed := true, recurses := true, named := ["gleanings/guess.nothing"], apart := false, laid := [("gleanings/guess.nothing", laid_gleanings_guess_nothing)] }
def GuessFarSaid : Prop := guessFarRow.holds Tryd.pinned (OpenSpec.ofChange guessFarSpec)

/-- ITS FALSE NEIGHBOUR: 'it returns false'. Refute it at one input. -/
def guessFarWrong : ChangeSpec := { name := "guessFar", fn := fun _ => fun
  | [d1, d2, d3, d4] => { results := [.lit (.bool false)], args := [d1, d2, d3, d4] }
  | _ => none }
def GuessFarWrongFalsely : Prop := guessFarRow.holds Tryd.pinned (OpenSpec.ofChange guessFarWrong)

/- THE SECOND FORM. 'bulk': how many values and letters a reading holds, each counted each time it is reached (what is shared counts as often as it is met; a slice's spare places count too). A statement '..UptoSaid' is the law's where the arguments, and the package variables that the reading takes, are together of bulk at most 1048576: NARROWER than '..Said'. Prove '..Said' where nothing that the law and all that it calls make is longer than what came in: it says more and counts as full. Else prove '..UptoSaid'. A law counts once. -/
mutual
def uptoBulk {H : Type} : DataW H → Nat
  | .lit (.string bytes) => bytes.length + 1
  | .lit _ => 1
  | .nil => 1
  | .ptr d => uptoBulk d + 1
  | .slice elems spare => uptoBulkAll elems + uptoBulkAll spare + 1
  | .agg parts => uptoBulkAll parts + 1
  | .iface _ d => uptoBulk d + 1
  | .map entries => uptoBulkEntries entries + 1
  | .held _ => 1
def uptoBulkAll {H : Type} : List (DataW H) → Nat
  | [] => 0
  | d :: r => uptoBulk d + uptoBulkAll r
def uptoBulkEntries {H : Type} : List (Lit × DataW H) → Nat
  | [] => 0
  | x :: r => uptoBulkEntry x + uptoBulkEntries r
def uptoBulkEntry {H : Type} : Lit × DataW H → Nat
  | (.string bytes, d) => bytes.length + uptoBulk d + 1
  | (_, d) => uptoBulk d + 1
 end
def uptoSmall : (H : Type) → List (DataW H) → Bool := fun _ ds => decide (uptoBulkAll ds ≤ 1048576)
def OpenSpec.upto (s : _root_.Go.ChangeSpec) : _root_.Go.OpenSpec := { _root_.Go.OpenSpec.ofChange s with cond := some uptoSmall }

/-- 'gleaningskeep.GuessWhole', WHERE WHAT IT READS IS OF BULK AT MOST 1048576: true; the input reads as it did. -/
def guessWholeUptoRow : OpenClaim := { program := "ytffhphcgmgkgbabdoor", sum := "85c601444e2c82d65e0e953735ccd1f9d8211b278e27ec3fdaa22b20f9fa8668", func := "gleanings/gleaningskeep.GuessWhole", spec := "guessWhole", unfollowed := true, recurses := true, named := ["gleanings/guess.nothing"], apart := false, laid := [("gleanings/guess.nothing", laid_gleanings_guess_nothing)], narrowed := true }
def GuessWholeUptoSaid : Prop := guessWholeUptoRow.holds Tryd.pinned (OpenSpec.upto guessWholeSpec)

/-- 'gleaningskeep.GuessFar', WHERE WHAT IT READS IS OF BULK AT MOST 1048576: true; the input reads as it did. -/
def guessFarUptoRow : OpenClaim := { program := "ytffhphcgmgkgbabdoor", sum := "85c601444e2c82d65e0e953735ccd1f9d8211b278e27ec3fdaa22b20f9fa8668", func := "gleanings/gleaningskeep.GuessFar", spec := "guessFar", unfollowed := true, recurses := true, named := ["gleanings/guess.nothing"], apart := false, laid := [("gleanings/guess.nothing", laid_gleanings_guess_nothing)], narrowed := true }
def GuessFarUptoSaid : Prop := guessFarUptoRow.holds Tryd.pinned (OpenSpec.upto guessFarSpec)

end Rows
end Go.Proofs.YtffhphcgmgkgbabDoor
