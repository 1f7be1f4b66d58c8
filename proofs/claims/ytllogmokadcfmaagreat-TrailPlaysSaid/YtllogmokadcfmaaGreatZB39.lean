/-
  Some texts of this claim, one behind the other: PickRefCheck. What each proves, and its condition, stands at its head.
-/
import Derived.Test.YtllogmokadcfmaaGreatZB26
import Derived.Test.YtllogmokadcfmaaGreatZB33
import Derived.Test.YtllogmokadcfmaaGreatZB13
import Derived.Test.YtllogmokadcfmaaGreatZB15
/-
  The contract of the document's Check: which picks may be. Condition: names of at most 1,000,000,000 bytes.
-/
namespace Go.Proofs.YtllogmokadcfmaaGreat.Pick
open Go Go.RowKit Go.Lib Go.Proofs.YtllogmokadcfmaaGreat.Need Go.Proofs.YtllogmokadcfmaaGreat.Grow
open Go.Proofs.YtllogmokadcfmaaGreat.Label (runes fitL refFit_any)
open Go.Proofs.YtllogmokadcfmaaGreat.Ver (refFit_yes refFit_no)
set_option linter.unusedVariables false
theorem refVFit_any (p : Int) (w : World) : Calls Tryz.prog 61 #[.int .i64 p] w fun e w' => e = .returned (.bool (verOk p)) ∧ w = w' := by
  unfold verOk
  by_cases h : 0 ≤ p ∧ p < 1000000000
  · rw [decide_eq_true h]; exact refFit_yes p w h.1 h.2
  · rw [decide_eq_false h]; exact refFit_no p w h
end Go.Proofs.YtllogmokadcfmaaGreat.Pick
