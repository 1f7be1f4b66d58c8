/-
  The contract of the program's put: a new set of the call's own, and a span that begins no lower than its last one. Condition: fewer than 1,000,000 spans.
-/
import Derived.Test.YtnkcjemobljpdaaDoorSpanCells
namespace Go.Proofs.YtnkcjemobljpdaaDoor.Span
open Go.RowKit Go.Lib
set_option linter.unusedVariables false
end Go.Proofs.YtnkcjemobljpdaaDoor.Span
