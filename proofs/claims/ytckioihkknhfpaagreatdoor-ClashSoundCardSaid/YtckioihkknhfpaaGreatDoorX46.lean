/-
  Some texts of this claim, one behind the other: TermTabs. What each proves, and its condition, stands at its head.
-/
import Derived.Test.YtckioihkknhfpaaGreatDoorRows
import Derived.Test.YtckioihkknhfpaaGreatDoorX23
import Derived.Lib.LaidU8
/-
  What the listed tables hold is what the walks ask of the memory. No condition.
-/
namespace Go.Proofs.YtckioihkknhfpaaGreatDoor.Term
open Go.RowKit Go.Lib Go.Proofs.YtckioihkknhfpaaGreatDoor.Ver
theorem tabIs_of_reads {P : Program} {W : World} {name : String} {k : IntKind} {zs : List Int} {g : Nat} {t e : TypeId} {n : Nat}
    (hg : P.globalNamed name = some g) (hty : (P.globals[g]?).map (·.type) = some t) (ht : P.underlying t = some (.array n e)) (he : P.underlying e = some (.int k)) (hce : P.cellsOf e = 1) (hct : P.cellsOf t = n)
    (h : VarReads P W name (tabData k zs)) : TabIs P W name k zs := by
  obtain ⟨g', t', cs, fuel, p, hg', ht', hvar, hd⟩ := h
  obtain rfl := Option.some.inj (hg.symm.trans hg')
  obtain rfl := Option.some.inj (hty.symm.trans ht')
  unfold TabIs
  rw [hvar, ← cells_of_tab ht he hce hct hd]
theorem pow_same : (Rows.laid_internal_strconv_uint64pow10 : DataW Unit) = tabData .u64 pow10Tab := by kernel_rfl
theorem units_same : (Rows.laid_comprador_ver_units : DataW Unit) = tabData .i64 [1000000, 1000, 1] := by kernel_rfl
theorem tabs_of_laid {w : World} (h : laidMet Tryz.prog [("math/bits.deBruijn32tab", Rows.laid_math_bits_deBruijn32tab), ("math/bits.deBruijn64tab", Rows.laid_math_bits_deBruijn64tab), ("internal/strconv.uint64pow10", Rows.laid_internal_strconv_uint64pow10), ("comprador/ver.units", Rows.laid_comprador_ver_units)] w) : Tabs w :=
  ⟨tabIs_of_reads (g := 2) (by kernel_rfl) (by kernel_rfl) Tryz.underlying146 Tryz.underlying122 (by kernel_rfl) (by kernel_rfl) (by rw [← pow_same]; exact Lib.laidMet.reads h (.tail _ (.tail _ (.head _)))),
   tabIs_of_reads (g := 1) (by kernel_rfl) (by kernel_rfl) Tryz.underlying135 Tryz.underlying3 (by kernel_rfl) (by kernel_rfl) (by rw [← units_same]; exact Lib.laidMet.reads h (.tail _ (.tail _ (.tail _ (.head _)))))⟩
end Go.Proofs.YtckioihkknhfpaaGreatDoor.Term
