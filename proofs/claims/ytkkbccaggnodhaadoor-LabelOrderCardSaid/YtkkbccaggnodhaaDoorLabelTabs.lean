/-
  What the listed tables of the library hold is what its reading of a first rune asks of the memory. No condition.
-/
import Derived.Test.YtkkbccaggnodhaaDoorRows
import Derived.Test.YtkkbccaggnodhaaDoorLabelLay
namespace Go.Proofs.YtkkbccaggnodhaaDoor.Label
open Go.RowKit Go.Lib
theorem first_same : Rows.laid_unicode_utf8_first = firstData := by kernel_rfl
theorem accept_same : (Rows.laid_unicode_utf8_acceptRanges : DataW Unit) = acceptData := by kernel_rfl
theorem tabs_of_laid {w : World} (h : laidMet Tryd.prog [("unicode/utf8.acceptRanges", Rows.laid_unicode_utf8_acceptRanges), ("unicode/utf8.first", Rows.laid_unicode_utf8_first)] w) : Tabs w :=
  tabs_of_reads (by rw [← first_same]; exact Lib.laidMet.reads h (.tail _ (.head _))) (by rw [← accept_same]; exact Lib.laidMet.reads h (.head _))
end Go.Proofs.YtkkbccaggnodhaaDoor.Label
