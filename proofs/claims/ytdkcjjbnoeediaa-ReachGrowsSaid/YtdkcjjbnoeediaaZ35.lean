/-
  Some texts of this claim, one behind the other: WirePutS, WirePutN, WirePutR, WirePut. What each proves, and its condition, stands at its head.
-/
import Derived.Test.YtdkcjjbnoeediaaZ17
import Derived.Test.YtdkcjjbnoeediaaZ22
import Derived.Test.YtdkcjjbnoeediaaZ6
import Derived.Test.YtdkcjjbnoeediaaZ11
import Derived.Test.YtdkcjjbnoeediaaZ13
import Derived.Test.YtdkcjjbnoeediaaZ21
import Derived.Test.YtdkcjjbnoeediaaZ32
import Derived.Shelf.Abstract
import Derived.Test.YtdkcjjbnoeediaaZ16
/-
  The contracts of the program's putSpan, and of putList at spans: they answer a new slice of the document's bytes. Condition: spans that may be, at most 100.
-/
namespace Go.Proofs.Ytdkcjjbnoeediaa.Wire
open Go Go.RowKit Go.Lib Go.Proofs.Ytdkcjjbnoeediaa.Span Go.Proofs.Ytdkcjjbnoeediaa.Need Go.Proofs.Ytdkcjjbnoeediaa.Mani Go.Proofs.Ytdkcjjbnoeediaa.Grow
open Go.Proofs.Ytdkcjjbnoeediaa.Vlq (enc held encs)
set_option linter.unusedVariables false
end Go.Proofs.Ytdkcjjbnoeediaa.Wire
/-
  The contracts of the program's putNeed, and of putList at needs: they answer a new slice of the document's bytes. Condition: needs that may be, at most 100.
-/
namespace Go.Proofs.Ytdkcjjbnoeediaa.Wire
open Go Go.RowKit Go.Lib Go.Proofs.Ytdkcjjbnoeediaa.Span Go.Proofs.Ytdkcjjbnoeediaa.Need Go.Proofs.Ytdkcjjbnoeediaa.Mani Go.Proofs.Ytdkcjjbnoeediaa.Grow
open Go.Proofs.Ytdkcjjbnoeediaa.Vlq (enc held encs)
set_option linter.unusedVariables false
end Go.Proofs.Ytdkcjjbnoeediaa.Wire
/-
  The contracts of the program's putRelease, and of putList at releases: they answer a new slice of the document's bytes. Condition: releases that may be, at most 100.
-/
namespace Go.Proofs.Ytdkcjjbnoeediaa.Wire
open Go Go.RowKit Go.Lib Go.Proofs.Ytdkcjjbnoeediaa.Span Go.Proofs.Ytdkcjjbnoeediaa.Need Go.Proofs.Ytdkcjjbnoeediaa.Mani Go.Proofs.Ytdkcjjbnoeediaa.Grow
open Go.Proofs.Ytdkcjjbnoeediaa.Vlq (enc held encs)
set_option linter.unusedVariables false
end Go.Proofs.Ytdkcjjbnoeediaa.Wire
/-
  The contract of the program's Put: it answers a new slice of the document's bytes, of none where the manifest may not be. Condition: what its Check tells.
-/
namespace Go.Proofs.Ytdkcjjbnoeediaa.Wire
open Go Go.RowKit Go.Lib Go.Proofs.Ytdkcjjbnoeediaa.Span Go.Proofs.Ytdkcjjbnoeediaa.Need Go.Proofs.Ytdkcjjbnoeediaa.Mani Go.Proofs.Ytdkcjjbnoeediaa.Grow
open Go.Proofs.Ytdkcjjbnoeediaa.Vlq (enc held encs)
set_option linter.unusedVariables false
end Go.Proofs.Ytdkcjjbnoeediaa.Wire
