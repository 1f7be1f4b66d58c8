/-
  Some texts of this claim, one behind the other: ClashRefCheck. What each proves, and its condition, stands at its head.
-/
import Derived.Test.YtckioihkknhfpaaGreatDoorX12
import Derived.Test.YtckioihkknhfpaaGreatDoorX18
import Derived.Test.YtckioihkknhfpaaGreatDoorX19
import Derived.Laws.Cover1
/-
  Contracts of the document's Check, Same and Find of clashes. Condition: the slices read as terms, of names of at most 1,000,000,000 bytes and sets of at most 1,000,000,001 spans.
-/
namespace Go.Proofs.YtckioihkknhfpaaGreatDoor.Clash
open Go.Proofs.YtckioihkknhfpaaGreatDoor.Pick (triP empty_lt fit_some)
open Go Go.RowKit Go.Lib Go.Proofs.YtckioihkknhfpaaGreatDoor.Span Go.Proofs.YtckioihkknhfpaaGreatDoor.Need Go.Proofs.YtckioihkknhfpaaGreatDoor.Grow Go.Proofs.YtckioihkknhfpaaGreatDoor.Term
open Go.Proofs.YtckioihkknhfpaaGreatDoor.Label (runes fitL)
set_option linter.unusedVariables false
theorem cell_in {w : World} {p : Addr} {v : Value} (h : w.cell? p = some v) (hp : p.block < w.heap.size) (d : Nat) (os : Array Obj) : (Sort.grow (redrawn w d) os).cell? p = some v :=
  ((below_regrown w d os).cell hp).trans h
def FineT (l : List Tm) : Prop := ∀ t ∈ l, t.name.size ≤ 1000000000 ∧ t.set.length ≤ 1000000001
end Go.Proofs.YtckioihkknhfpaaGreatDoor.Clash
