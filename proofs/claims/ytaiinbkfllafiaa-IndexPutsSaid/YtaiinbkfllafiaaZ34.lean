/-
  Some texts of this claim, one behind the other: DepotBody. What each proves, and its condition, stands at its head.
-/
import Derived.Test.YtaiinbkfllafiaaZ29
import Derived.Test.YtaiinbkfllafiaaZ33
/-
  The contracts of the program's Body and the document's: a name's body. Condition: the slices read as entries that may be; a name of at most 1,000,000,000 bytes.
-/
namespace Go.Proofs.Ytaiinbkfllafiaa.Depot
open Go Go.RowKit Go.Lib Go.Proofs.Ytaiinbkfllafiaa.Span Go.Proofs.Ytaiinbkfllafiaa.Need Go.Proofs.Ytaiinbkfllafiaa.Mani Go.Proofs.Ytaiinbkfllafiaa.Wire
set_option linter.unusedVariables false
theorem fineR_nil : FineR [] := ⟨by decide, fun q hq => by cases hq⟩
end Go.Proofs.Ytaiinbkfllafiaa.Depot
