/-
  Some texts of this claim, one behind the other: ProofRefCheck. What each proves, and its condition, stands at its head.
-/
import Derived.Test.YtdggnakjfcmnmaaZB9
import Derived.Test.YtdggnakjfcmnmaaZB15
import Derived.Test.YtdggnakjfcmnmaaZB22
/-
  The contracts of the document's own may and Check: which steps, and which proofs, may be. Condition: names of at most 1,000,000,000 bytes.
-/
namespace Go.Proofs.Ytdggnakjfcmnmaa.Proof
open Go Go.RowKit Go.Lib Go.Proofs.Ytdggnakjfcmnmaa.Need
open Go.Proofs.Ytdggnakjfcmnmaa.Label (runes fitL refFit_any)
open Go.Proofs.Ytdggnakjfcmnmaa.Pick (refVFit_any)
set_option linter.unusedVariables false
set_option linter.unusedSimpArgs false
theorem empty_list : ByteArray.empty.toList = [] := by rw [Lib.toList_data]; rfl
theorem eq_empty {d : ByteArray} (h : d.toList = []) : d = ByteArray.empty := by
  have := eq_names d ByteArray.empty
  rw [h, empty_list] at this
  exact of_decide_eq_true this.symm
end Go.Proofs.Ytdggnakjfcmnmaa.Proof
