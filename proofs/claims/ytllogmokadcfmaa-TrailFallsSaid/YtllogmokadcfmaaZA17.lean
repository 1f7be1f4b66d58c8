/-
  Some texts of this claim, one behind the other: IndexMath. What each proves, and its condition, stands at its head.
-/
import Derived.Test.YtllogmokadcfmaaZA5
import Derived.Test.YtllogmokadcfmaaZA11
import Derived.Test.YtllogmokadcfmaaZA16
import Derived.Lib.Bytealg
/-
  Plain mathematics of an index: what is known of names, in their order; what a put answers, and what is known behind it; what was put first stays. No program.
-/
namespace Go.Proofs.Ytllogmokadcfmaa.Index
open Go.RowKit Go.Lib Go.Proofs.Ytllogmokadcfmaa.Span Go.Proofs.Ytllogmokadcfmaa.Need Go.Proofs.Ytllogmokadcfmaa.Mani Go.Proofs.Ytllogmokadcfmaa.Wire
open Go.Proofs.Ytllogmokadcfmaa.Label (runes fitL)
set_option linter.unusedVariables false
abbrev Kv := List Rl × Bool
abbrev Kn := ByteArray × Kv
def atX : List Kn → ByteArray → Option Kv
  | [], _ => none
  | q :: t, n => if q.1 = n then some q.2 else atX t n
theorem atX_in {l : List Kn} {n : ByteArray} {v : Kv} (h : atX l n = some v) : (n, v) ∈ l := by
  induction l with
  | nil => cases h
  | cons x t ih =>
    rw [atX] at h
    split at h
    · rename_i e
      injection h with h
      subst e h
      simp
    · exact List.mem_cons_of_mem _ (ih h)
def getX (l : List Kn) (nm : ByteArray) : Kv := (atX l nm).getD ([], false)
end Go.Proofs.Ytllogmokadcfmaa.Index
