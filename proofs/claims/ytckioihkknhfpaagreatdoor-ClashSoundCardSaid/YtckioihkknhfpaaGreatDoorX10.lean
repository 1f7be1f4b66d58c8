/-
  Some texts of this claim, one behind the other: SpanCuts. What each proves, and its condition, stands at its head.
-/
import Derived.Test.YtckioihkknhfpaaGreatDoorX3
import Derived.Test.YtckioihkknhfpaaGreatDoorX9
import Derived.Lib.QuietBelow
/-
  The contract of the document's cuts. Condition: at most 10,000 spans each.
-/
namespace Go.Proofs.YtckioihkknhfpaaGreatDoor.Span
open Go Go.RowKit Go.Lib Go.Proofs.YtckioihkknhfpaaGreatDoor.Grow
set_option linter.unusedVariables false
def isI (L : List Int) : Rel := fun w v => ∃ A n c, v = .slice A n c ∧ Reads w w.heap.size 1 A n (ics L)
theorem cell_reg_ {w : World} {p : Addr} {v : Value} (h : w.cell? p = some v) (hp : p.block < w.heap.size) (d : Nat) (os : Array Obj) : (Sort.grow (redrawn w d) os).cell? p = some v :=
  ((below_regrown w d os).cell hp).trans h
end Go.Proofs.YtckioihkknhfpaaGreatDoor.Span
