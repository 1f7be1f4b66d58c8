/-
  Some texts of this claim, one behind the other: ClashRefMake. What each proves, and its condition, stands at its head.
-/
import Derived.Test.YtllogmokadcfmaaGreatZB30
import Derived.Test.YtllogmokadcfmaaGreatZB32
import Derived.Test.YtllogmokadcfmaaGreatZB22
import Derived.Test.YtllogmokadcfmaaGreatZB29
import Derived.Test.YtllogmokadcfmaaGreatZB7
import Derived.Test.YtllogmokadcfmaaGreatZB33
import Derived.Test.YtllogmokadcfmaaGreatZB13
import Derived.Test.YtllogmokadcfmaaGreatZB3
import Derived.Test.YtllogmokadcfmaaGreatZB28
import Derived.Shelf.Strings.OnBuilder
import Derived.Test.YtllogmokadcfmaaGreatZB26
/-
  Contracts of the document's Make and Join of clashes. Condition: terms that may be, of at most 10,000 spans together (for Join: 5,000), at most 1,000 of them.
-/
namespace Go.Proofs.YtllogmokadcfmaaGreat.Clash
open Go.Proofs.YtllogmokadcfmaaGreat.Pick (triP)
open Go Go.RowKit Go.Lib Go.Proofs.YtllogmokadcfmaaGreat.Span Go.Proofs.YtllogmokadcfmaaGreat.Need Go.Proofs.YtllogmokadcfmaaGreat.Grow Go.Proofs.YtllogmokadcfmaaGreat.Term
open Go.Proofs.YtllogmokadcfmaaGreat.Label (runes fitL)
set_option linter.unusedVariables false
theorem own_one (w : World) (nm : ByteArray) (A : Option Addr) (n c : Nat) (z : Bool) (B : Nat) (hB : B ≤ w.heap.size) :
    (w.alloc (.cells #[.string nm, .slice A n c, .bool z] 38)).ownsRow B 38 3 (.slice (some ⟨w.heap.size, 0, none⟩) 1 1) 1 (tms [(nm, .slice A n c, z)]) :=
  ⟨rfl, .inr ⟨w.heap.size, 1, _, rfl, hB, heap_alloc_new w _, Nat.le_refl _, by decide, rfl, rfl⟩⟩
end Go.Proofs.YtllogmokadcfmaaGreat.Clash
