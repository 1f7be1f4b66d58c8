/-
  Some texts of this claim, one behind the other: ClashRefMake. What each proves, and its condition, stands at its head.
-/
import Derived.Test.YtllogmokadcfmaaZA23
import Derived.Test.YtllogmokadcfmaaZA29
import Derived.Test.YtllogmokadcfmaaZA16
import Derived.Laws.Cover1
import Derived.Test.YtllogmokadcfmaaZA31
import Derived.Test.YtllogmokadcfmaaZA22
import Derived.Test.YtllogmokadcfmaaZA7
import Derived.Test.YtllogmokadcfmaaZA13
import Derived.Shelf.Strconv.Itoa3
import Derived.Lib.LaidTab
import Derived.LoopTactic
import Derived.LoopN
import Derived.Laws.ResultCell
import Derived.ChangeKeysEq
import Derived.Test.YtllogmokadcfmaaZA3
import Derived.Test.YtllogmokadcfmaaZA28
import Derived.Shelf.Strings.OnBuilder
import Derived.Test.YtllogmokadcfmaaZA26
/-
  Contracts of the document's Make and Join of clashes. Condition: terms that may be, of at most 10,000 spans together (for Join: 5,000), at most 1,000 of them.
-/
namespace Go.Proofs.Ytllogmokadcfmaa.Clash
open Go Go.RowKit Go.Lib Go.Proofs.Ytllogmokadcfmaa.Span Go.Proofs.Ytllogmokadcfmaa.Need Go.Proofs.Ytllogmokadcfmaa.Grow Go.Proofs.Ytllogmokadcfmaa.Term
open Go.Proofs.Ytllogmokadcfmaa.Label (runes fitL)
set_option linter.unusedVariables false
theorem own_one (w : World) (nm : ByteArray) (A : Option Addr) (n c : Nat) (z : Bool) (B : Nat) (hB : B ≤ w.heap.size) :
    (w.alloc (.cells #[.string nm, .slice A n c, .bool z] 29)).ownsRow B 29 3 (.slice (some ⟨w.heap.size, 0, none⟩) 1 1) 1 (tms [(nm, .slice A n c, z)]) :=
  ⟨rfl, .inr ⟨w.heap.size, 1, _, rfl, hB, heap_alloc_new w _, Nat.le_refl _, by decide, rfl, rfl⟩⟩
end Go.Proofs.Ytllogmokadcfmaa.Clash
