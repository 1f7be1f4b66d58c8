/-
  Contracts of Least and Most. Condition: the slice reads as spans; Most's, that each ends within all places.
-/
import Derived.Test.YtcgcgjcjgpcfiaaGreatDoorSpanCells
namespace Go.Proofs.YtcgcgjcjgpcfiaaGreatDoor.Span
open Go.RowKit Go.Lib
set_option linter.unusedVariables false
end Go.Proofs.YtcgcgjcjgpcfiaaGreatDoor.Span
