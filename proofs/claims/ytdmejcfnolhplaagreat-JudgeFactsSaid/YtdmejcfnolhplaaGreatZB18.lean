/-
  Some texts of this claim, one behind the other: SpanCuts. What each proves, and its condition, stands at its head.
-/
import Derived.Test.YtdmejcfnolhplaaGreatZB14
import Derived.Test.YtdmejcfnolhplaaGreatZB8
import Derived.Lib.QuietBelow
/-
  The contract of the document's cuts. Condition: at most 10,000 spans each.
-/
namespace Go.Proofs.YtdmejcfnolhplaaGreat.Span
open Go Go.RowKit Go.Lib Go.Proofs.YtdmejcfnolhplaaGreat.Grow
set_option linter.unusedVariables false
theorem cell_reg_ {w : World} {p : Addr} {v : Value} (h : w.cell? p = some v) (hp : p.block < w.heap.size) (d : Nat) (os : Array Obj) : (Sort.grow (redrawn w d) os).cell? p = some v :=
  ((below_regrown w d os).cell hp).trans h
end Go.Proofs.YtdmejcfnolhplaaGreat.Span
