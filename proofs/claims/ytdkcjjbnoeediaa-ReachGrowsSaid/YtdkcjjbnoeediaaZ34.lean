/-
  Some texts of this claim, one behind the other: DepotFind. What each proves, and its condition, stands at its head.
-/
import Derived.Test.YtdkcjjbnoeediaaZ23
import Derived.Shelf.Small.Strs
/-
  The library's comparison of two texts, laid; the closure that tells how a name stands to an entry; the library's search over it. Condition: the entries' names rise.
-/
namespace Go.Proofs.Ytdkcjjbnoeediaa.Depot
open Go Go.RowKit Go.Lib Go.Shelf Go.Proofs.Ytdkcjjbnoeediaa.Span Go.Proofs.Ytdkcjjbnoeediaa.Need Go.Proofs.Ytdkcjjbnoeediaa.Mani Go.Proofs.Ytdkcjjbnoeediaa.Wire
set_option linter.unusedVariables false
end Go.Proofs.Ytdkcjjbnoeediaa.Depot
