/-
  Some texts of this claim, one behind the other: WireNum. What each proves, and its condition, stands at its head.
-/
import Derived.Test.YtllogmokadcfmaaGreatZB9
import Derived.Test.YtllogmokadcfmaaGreatZB1
import Derived.Test.YtllogmokadcfmaaGreatChecked
import Derived.Lib.SlBytesConst
import Derived.Laws.BitsAllLaws
import Derived.Laws.BitsLemmas
import Derived.Test.YtllogmokadcfmaaGreatZB10
import Derived.Lib.Strings
/-
  Plain mathematics of numbers, texts and lists as bytes: what is written, what is read, what was written is read, and what is read was written so. No program.
-/
namespace Go.Proofs.YtllogmokadcfmaaGreat.Wire
open Go.RowKit Go.Lib
open Go.Proofs.YtllogmokadcfmaaGreat.Vlq (enc held hi val wd width)
set_option linter.unusedVariables false
abbrev St := List UInt8 × Int
end Go.Proofs.YtllogmokadcfmaaGreat.Wire
