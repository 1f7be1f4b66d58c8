/-
  Some texts of this claim, one behind the other: PickRefCheck. What each proves, and its condition, stands at its head.
-/
import Derived.Test.YtdggnakjfcmnmaaZB9
import Derived.Test.YtdggnakjfcmnmaaZB19
import Derived.Test.YtdggnakjfcmnmaaZB21
import Derived.Test.YtdggnakjfcmnmaaZB17
/-
  The contract of the document's Check: which picks may be. Condition: names of at most 1,000,000,000 bytes.
-/
namespace Go.Proofs.Ytdggnakjfcmnmaa.Pick
open Go Go.RowKit Go.Lib Go.Proofs.Ytdggnakjfcmnmaa.Need Go.Proofs.Ytdggnakjfcmnmaa.Grow
open Go.Proofs.Ytdggnakjfcmnmaa.Label (runes fitL refFit_any)
open Go.Proofs.Ytdggnakjfcmnmaa.Ver (refFit_yes refFit_no)
set_option linter.unusedVariables false
theorem refVFit_any (p : Int) (w : World) : Calls Try.prog 45 #[.int .i64 p] w fun e w' => e = .returned (.bool (verOk p)) ∧ w = w' := by
  unfold verOk
  by_cases h : 0 ≤ p ∧ p < 1000000000
  · rw [decide_eq_true h]; exact refFit_yes p w h.1 h.2
  · rw [decide_eq_false h]; exact refFit_no p w h
end Go.Proofs.Ytdggnakjfcmnmaa.Pick
