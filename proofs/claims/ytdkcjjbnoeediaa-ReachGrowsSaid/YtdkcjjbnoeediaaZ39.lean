/-
  Some texts of this claim, one behind the other: DepotBody. What each proves, and its condition, stands at its head.
-/
import Derived.Test.YtdkcjjbnoeediaaZ34
import Derived.Test.YtdkcjjbnoeediaaZ38
/-
  The contracts of the program's Body and the document's: a name's body. Condition: the slices read as entries that may be; a name of at most 1,000,000,000 bytes.
-/
namespace Go.Proofs.Ytdkcjjbnoeediaa.Depot
open Go Go.RowKit Go.Lib Go.Proofs.Ytdkcjjbnoeediaa.Span Go.Proofs.Ytdkcjjbnoeediaa.Need Go.Proofs.Ytdkcjjbnoeediaa.Mani Go.Proofs.Ytdkcjjbnoeediaa.Wire
set_option linter.unusedVariables false
theorem fineR_nil : FineR [] := ⟨by decide, fun q hq => by cases hq⟩
end Go.Proofs.Ytdkcjjbnoeediaa.Depot
