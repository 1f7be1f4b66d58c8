/-
  Some texts of this claim, one behind the other: DepotFind. What each proves, and its condition, stands at its head.
-/
import Derived.Test.YtaiinbkfllafiaaZ21
import Derived.Shelf.Small.Strs
/-
  The library's comparison of two texts, laid; the closure that tells how a name stands to an entry; the library's search over it. Condition: the entries' names rise.
-/
namespace Go.Proofs.Ytaiinbkfllafiaa.Depot
open Go Go.RowKit Go.Lib Go.Shelf Go.Proofs.Ytaiinbkfllafiaa.Span Go.Proofs.Ytaiinbkfllafiaa.Need Go.Proofs.Ytaiinbkfllafiaa.Mani Go.Proofs.Ytaiinbkfllafiaa.Wire
set_option linter.unusedVariables false
end Go.Proofs.Ytaiinbkfllafiaa.Depot
