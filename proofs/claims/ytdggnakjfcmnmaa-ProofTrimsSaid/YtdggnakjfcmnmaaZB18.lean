/-
  Some texts of this claim, one behind the other: VerLay. What each proves, and its condition, stands at its head.
-/
import Derived.Test.YtdggnakjfcmnmaaZB7
import Derived.Test.YtdggnakjfcmnmaaZB17
import Derived.Shelf.Strconv.Itoa3
import Derived.Lib.LaidTab
/-
  The library's own Itoa, laid at this program: a number's decimal digits; and the tables that the program and the library read, as they go on reading. Condition: the tables hold what the texts lay in them.
-/
namespace Go.Proofs.Ytdggnakjfcmnmaa.Ver
open Go.RowKit Go.Lib Go.Shelf
set_option linter.unusedVariables false
def Tabs (w : World) : Prop := Lib.TabIs Try.prog w "internal/strconv.uint64pow10" .u64 Lib.pow10Tab ∧ Lib.TabIs Try.prog w "comprador/ver.units" .i64 [1000000, 1000, 1]
theorem tab_below {P : Program} {w w' : World} {name : String} {k : IntKind} {zs : List Int} (h : Lib.TabIs P w name k zs) (hb : Below w.heap.size w w') : Lib.TabIs P w' name k zs := by
  unfold TabIs World.var? at *
  cases hg : P.globalNamed name with
  | none => simp [hg] at h
  | some g =>
    simp only [hg, Option.bind_some] at h ⊢
    have hlt : g < w.heap.size := by
      rcases Nat.lt_or_ge g w.heap.size with h' | h'
      · exact h'
      · rw [Array.getElem?_eq_none h'] at h; simp at h
    rw [hb.block g hlt]
    exact h
theorem Tabs.below {w w' : World} (h : Tabs w) (hb : Below w.heap.size w w') : Tabs w' := ⟨tab_below h.1 hb, tab_below h.2 hb⟩
def Units (w : World) : Prop := Lib.TabIs Try.prog w "comprador/ver.units" .i64 [1000000, 1000, 1]
theorem Units.below {w w' : World} (h : Units w) (hb : Below w.heap.size w w') : Units w' := tab_below h hb
end Go.Proofs.Ytdggnakjfcmnmaa.Ver
