/-
  Some texts of this claim, one behind the other: WireNum. What each proves, and its condition, stands at its head.
-/
import Derived.Test.YtllogmokadcfmaaZA9
import Derived.Test.YtllogmokadcfmaaZA1
import Derived.Test.YtllogmokadcfmaaChecked
import Derived.Lib.SlBytesConst
import Derived.Laws.BitsAllLaws
import Derived.Laws.BitsLemmas
import Derived.Test.YtllogmokadcfmaaZA10
import Derived.Lib.Strings
/-
  Plain mathematics of numbers, texts and lists as bytes: what is written, what is read, what was written is read, and what is read was written so. No program.
-/
namespace Go.Proofs.Ytllogmokadcfmaa.Wire
open Go.RowKit Go.Lib
open Go.Proofs.Ytllogmokadcfmaa.Vlq (enc held hi val wd width)
set_option linter.unusedVariables false
abbrev St := List UInt8 × Int
end Go.Proofs.Ytllogmokadcfmaa.Wire
