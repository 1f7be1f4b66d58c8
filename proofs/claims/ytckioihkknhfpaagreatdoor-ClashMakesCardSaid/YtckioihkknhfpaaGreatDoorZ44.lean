/-
  Some texts of this claim, one behind the other: PickGet. What each proves, and its condition, stands at its head.
-/
import Derived.Test.YtckioihkknhfpaaGreatDoorZ8
import Derived.Test.YtckioihkknhfpaaGreatDoorZ29
import Derived.ScopeJumps
import Derived.WalkMore
import Derived.Lib.Hide
/-
  The contracts of Get, a name's version, and of the statements' Large. Condition: the names rise; no more than 1,000,000 picks.
-/
namespace Go.Proofs.YtckioihkknhfpaaGreatDoor.Pick
open Go Go.RowKit Go.Lib Go.Proofs.YtckioihkknhfpaaGreatDoor.Need
set_option linter.unusedVariables false
def bigP (q : Pk) : Bool := decide (200 < q.1.size)
def largeP (l : List Pk) : Bool := decide (60 < l.length) || l.any bigP
end Go.Proofs.YtckioihkknhfpaaGreatDoor.Pick
