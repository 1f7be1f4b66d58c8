/-
  Some texts of this claim, one behind the other: SpanSift. What each proves, and its condition, stands at its head.
-/
import Derived.Test.YtdggnakjfcmnmaaZB3
import Derived.Shelf.Abstract
/-
  The contract of the program's sift, over any closure that tells of two booleans and writes nothing: the set of the places that are kept; and of Union, Meet, Not, Within over it. Condition: the slices read as sets.
-/
namespace Go.Proofs.Ytdggnakjfcmnmaa.Span
open Go.RowKit Go.Lib
set_option linter.unusedVariables false
def kept (K : Bool → Bool → Bool) (a b : List S) (p : Int) : Bool := K (has a p) (has b p)
noncomputable def unionS (a b : List S) : List S := nf (kept (fun x y => x || y) a b)
noncomputable def meetS (a b : List S) : List S := nf (kept (fun x y => x && y) a b)
noncomputable def notS (a : List S) : List S := nf (kept (fun x y => !x) a [])
noncomputable def lessS (a b : List S) : List S := nf (kept (fun x y => x && !y) a b)
end Go.Proofs.Ytdggnakjfcmnmaa.Span
