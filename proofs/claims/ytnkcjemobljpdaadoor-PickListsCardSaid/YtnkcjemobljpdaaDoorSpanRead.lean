/-
  Contracts of what tells of spans and writes nothing that was there: told, the closures, edge, passed, Has, Count, Least, Most, the document's own ones. Condition: the slice reads as spans.
-/
import Derived.Test.YtnkcjemobljpdaaDoorSpanCells
namespace Go.Proofs.YtnkcjemobljpdaaDoor.Span
open Go.RowKit Go.Lib
set_option linter.unusedVariables false
def toldM (op : Int) (x y : Bool) : Bool := if op = 0 then x || y else if op = 1 then x && y else !x
end Go.Proofs.YtnkcjemobljpdaaDoor.Span
