/-
  The contract of the document's Check: whether spans are a set. Condition: the slice reads as spans.
-/
import Derived.Test.YtcgcgjcjgpcfiaaGreatDoorSpanCheck
namespace Go.Proofs.YtcgcgjcjgpcfiaaGreatDoor.Span
open Go.RowKit Go.Lib
set_option linter.unusedVariables false
end Go.Proofs.YtcgcgjcjgpcfiaaGreatDoor.Span
