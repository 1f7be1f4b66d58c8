/-
  Some texts of this claim, one behind the other: NeedRefSame, ManiRefSame. What each proves, and its condition, stands at its head.
-/
import Derived.Test.YtdkcjjbnoeediaaZ16
import Derived.Test.YtdkcjjbnoeediaaZ9
import Derived.Test.YtdkcjjbnoeediaaZ15
import Derived.Test.YtdkcjjbnoeediaaZ21
import Derived.Test.YtdkcjjbnoeediaaZ36
/-
  Contracts of the document's Same and Check: whether needs are alike, which may be. Condition: the slices read as needs, of at most 1,000,000,001 spans each; names of at most 1,000,000,000 bytes.
-/
namespace Go.Proofs.Ytdkcjjbnoeediaa.Need
open Go Go.RowKit Go.Lib Go.Proofs.Ytdkcjjbnoeediaa.Span Go.Proofs.Ytdkcjjbnoeediaa.Grow
open Go.Proofs.Ytdkcjjbnoeediaa.Label (runes fitL refFit_any)
set_option linter.unusedVariables false
end Go.Proofs.Ytdkcjjbnoeediaa.Need
/-
  Contract of the document's Same: whether manifests are alike. Condition: needs, names and sets of a length that may be walked.
-/
namespace Go.Proofs.Ytdkcjjbnoeediaa.Mani
open Go Go.RowKit Go.Lib Go.Proofs.Ytdkcjjbnoeediaa.Span Go.Proofs.Ytdkcjjbnoeediaa.Need Go.Proofs.Ytdkcjjbnoeediaa.Grow
set_option linter.unusedVariables false
end Go.Proofs.Ytdkcjjbnoeediaa.Mani
