/-
  Some texts of this claim, one behind the other: TermAwake. What each proves, and its condition, stands at its head.
-/
import Derived.Test.YtllogmokadcfmaaZA29
import Derived.Test.YtllogmokadcfmaaZA7
import Derived.Test.YtllogmokadcfmaaZA13
import Derived.Shelf.Strconv.Itoa3
import Derived.Lib.LaidTab
import Derived.LoopTactic
import Derived.LoopN
import Derived.Laws.ResultCell
import Derived.ChangeKeysEq
import Derived.Test.YtllogmokadcfmaaZA3
import Derived.Test.YtllogmokadcfmaaZA28
import Derived.Shelf.Strings.OnBuilder
import Derived.Test.YtllogmokadcfmaaZA31
/-
  The chapter's example of terms (awake): it holds. Condition: the tables hold what the texts lay in them.
-/
namespace Go.Proofs.Ytllogmokadcfmaa.Term
open Go Go.RowKit Go.Lib Go.Proofs.Ytllogmokadcfmaa.Span Go.Proofs.Ytllogmokadcfmaa.Need Go.Proofs.Ytllogmokadcfmaa.Grow
open Go.Proofs.Ytllogmokadcfmaa.Label (runes fitL)
open Go.Proofs.Ytllogmokadcfmaa.Rule (tz)
open Go.Proofs.Ytllogmokadcfmaa.Ver (txt pA pB pC)
set_option linter.unusedVariables false
theorem small_of {t : Tm} (h : largeT t = false) : t.set.length ≤ 60 ∧ t.name.size ≤ 200 := by
  unfold largeT at h
  simp only [Bool.or_eq_false_iff, decide_eq_false_iff_not] at h
  omega
end Go.Proofs.Ytllogmokadcfmaa.Term
