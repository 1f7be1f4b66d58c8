/-
  Some texts of this claim, one behind the other: WirePutS, WirePutN, WirePutR, WirePut. What each proves, and its condition, stands at its head.
-/
import Derived.Test.YtaiinbkfllafiaaZ17
import Derived.Test.YtaiinbkfllafiaaZ20
import Derived.Test.YtaiinbkfllafiaaZ6
import Derived.Test.YtaiinbkfllafiaaZ11
import Derived.Test.YtaiinbkfllafiaaZ13
import Derived.Test.YtaiinbkfllafiaaZ19
import Derived.Test.YtaiinbkfllafiaaZ27
import Derived.Shelf.Abstract
import Derived.Test.YtaiinbkfllafiaaZ16
/-
  The contracts of the program's putSpan, and of putList at spans: they answer a new slice of the document's bytes. Condition: spans that may be, at most 100.
-/
namespace Go.Proofs.Ytaiinbkfllafiaa.Wire
open Go Go.RowKit Go.Lib Go.Proofs.Ytaiinbkfllafiaa.Span Go.Proofs.Ytaiinbkfllafiaa.Need Go.Proofs.Ytaiinbkfllafiaa.Mani Go.Proofs.Ytaiinbkfllafiaa.Grow
open Go.Proofs.Ytaiinbkfllafiaa.Vlq (enc held encs)
set_option linter.unusedVariables false
end Go.Proofs.Ytaiinbkfllafiaa.Wire
/-
  The contracts of the program's putNeed, and of putList at needs: they answer a new slice of the document's bytes. Condition: needs that may be, at most 100.
-/
namespace Go.Proofs.Ytaiinbkfllafiaa.Wire
open Go Go.RowKit Go.Lib Go.Proofs.Ytaiinbkfllafiaa.Span Go.Proofs.Ytaiinbkfllafiaa.Need Go.Proofs.Ytaiinbkfllafiaa.Mani Go.Proofs.Ytaiinbkfllafiaa.Grow
open Go.Proofs.Ytaiinbkfllafiaa.Vlq (enc held encs)
set_option linter.unusedVariables false
end Go.Proofs.Ytaiinbkfllafiaa.Wire
/-
  The contracts of the program's putRelease, and of putList at releases: they answer a new slice of the document's bytes. Condition: releases that may be, at most 100.
-/
namespace Go.Proofs.Ytaiinbkfllafiaa.Wire
open Go Go.RowKit Go.Lib Go.Proofs.Ytaiinbkfllafiaa.Span Go.Proofs.Ytaiinbkfllafiaa.Need Go.Proofs.Ytaiinbkfllafiaa.Mani Go.Proofs.Ytaiinbkfllafiaa.Grow
open Go.Proofs.Ytaiinbkfllafiaa.Vlq (enc held encs)
set_option linter.unusedVariables false
end Go.Proofs.Ytaiinbkfllafiaa.Wire
/-
  The contract of the program's Put: it answers a new slice of the document's bytes, of none where the manifest may not be. Condition: what its Check tells.
-/
namespace Go.Proofs.Ytaiinbkfllafiaa.Wire
open Go Go.RowKit Go.Lib Go.Proofs.Ytaiinbkfllafiaa.Span Go.Proofs.Ytaiinbkfllafiaa.Need Go.Proofs.Ytaiinbkfllafiaa.Mani Go.Proofs.Ytaiinbkfllafiaa.Grow
open Go.Proofs.Ytaiinbkfllafiaa.Vlq (enc held encs)
set_option linter.unusedVariables false
end Go.Proofs.Ytaiinbkfllafiaa.Wire
