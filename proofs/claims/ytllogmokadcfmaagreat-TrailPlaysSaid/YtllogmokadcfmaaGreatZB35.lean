/-
  Some texts of this claim, one behind the other: TermAwake. What each proves, and its condition, stands at its head.
-/
import Derived.Test.YtllogmokadcfmaaGreatZB29
import Derived.Test.YtllogmokadcfmaaGreatZB7
import Derived.Test.YtllogmokadcfmaaGreatZB33
import Derived.Test.YtllogmokadcfmaaGreatZB13
import Derived.Test.YtllogmokadcfmaaGreatZB3
import Derived.Test.YtllogmokadcfmaaGreatZB28
import Derived.Shelf.Strings.OnBuilder
import Derived.Test.YtllogmokadcfmaaGreatZB32
/-
  The chapter's example of terms (awake): it holds. Condition: the tables hold what the texts lay in them.
-/
namespace Go.Proofs.YtllogmokadcfmaaGreat.Term
open Go Go.RowKit Go.Lib Go.Proofs.YtllogmokadcfmaaGreat.Span Go.Proofs.YtllogmokadcfmaaGreat.Need Go.Proofs.YtllogmokadcfmaaGreat.Grow
open Go.Proofs.YtllogmokadcfmaaGreat.Label (runes fitL)
open Go.Proofs.YtllogmokadcfmaaGreat.Rule (tz)
open Go.Proofs.YtllogmokadcfmaaGreat.Ver (txt pA pB pC)
set_option linter.unusedVariables false
theorem small_of {t : Tm} (h : largeT t = false) : t.set.length ≤ 60 ∧ t.name.size ≤ 200 := by
  unfold largeT at h
  simp only [Bool.or_eq_false_iff, decide_eq_false_iff_not] at h
  omega
end Go.Proofs.YtllogmokadcfmaaGreat.Term
