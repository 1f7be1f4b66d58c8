/-
  Some texts of this claim, one behind the other: DepotMath, IndexMath. What each proves, and its condition, stands at its head.
-/
import Derived.Test.YtllogmokadcfmaaGreatZB5
import Derived.Test.YtllogmokadcfmaaGreatZB11
import Derived.Test.YtllogmokadcfmaaGreatZB16
import Derived.Lib.Bytealg
/-
  Plain mathematics of depots: which entries may be, where an entry stands, a name's body and manifest, what is broken, the depot of manifests; a depot of manifests has just them. No program.
-/
namespace Go.Proofs.YtllogmokadcfmaaGreat.Depot
open Go.RowKit Go.Lib Go.Proofs.YtllogmokadcfmaaGreat.Span Go.Proofs.YtllogmokadcfmaaGreat.Need Go.Proofs.YtllogmokadcfmaaGreat.Mani Go.Proofs.YtllogmokadcfmaaGreat.Wire
open Go.Proofs.YtllogmokadcfmaaGreat.Label (runes fitL)
set_option linter.unusedVariables false
theorem cmp_lt : ∀ {a b : List UInt8}, a < b → compareBytes a b = -1
  | [], [], h => absurd h (List.lt_irrefl _)
  | [], _ :: _, _ => rfl
  | _ :: _, [], h => by cases h
  | x :: a, y :: b, h => by
    unfold compareBytes
    rcases List.cons_lt_cons_iff.1 h with h1 | ⟨h1, h2⟩
    · rw [if_pos h1]
    · subst h1
      rw [if_neg (UInt8.lt_irrefl x), if_neg (UInt8.lt_irrefl x)]
      exact cmp_lt h2
theorem cmp_gt : ∀ {a b : List UInt8}, b < a → compareBytes a b = 1
  | [], [], h => absurd h (List.lt_irrefl _)
  | [], _ :: _, h => by cases h
  | _ :: _, [], _ => rfl
  | x :: a, y :: b, h => by
    unfold compareBytes
    rcases List.cons_lt_cons_iff.1 h with h1 | ⟨h1, h2⟩
    · rw [if_neg (UInt8.lt_asymm h1), if_pos h1]
    · subst h1
      rw [if_neg (UInt8.lt_irrefl y), if_neg (UInt8.lt_irrefl y)]
      exact cmp_gt h2
theorem cmp_self : ∀ (a : List UInt8), compareBytes a a = 0
  | [] => rfl
  | x :: a => by
    unfold compareBytes
    rw [if_neg (UInt8.lt_irrefl x), if_neg (UInt8.lt_irrefl x)]
    exact cmp_self a
end Go.Proofs.YtllogmokadcfmaaGreat.Depot
/-
  Plain mathematics of an index: what is known of names, in their order; what a put answers, and what is known behind it; what was put first stays. No program.
-/
namespace Go.Proofs.YtllogmokadcfmaaGreat.Index
open Go.RowKit Go.Lib Go.Proofs.YtllogmokadcfmaaGreat.Span Go.Proofs.YtllogmokadcfmaaGreat.Need Go.Proofs.YtllogmokadcfmaaGreat.Mani Go.Proofs.YtllogmokadcfmaaGreat.Wire Go.Proofs.YtllogmokadcfmaaGreat.Depot
open Go.Proofs.YtllogmokadcfmaaGreat.Label (runes fitL)
set_option linter.unusedVariables false
abbrev Kv := List Rl × Bool
abbrev Kn := ByteArray × Kv
def atX : List Kn → ByteArray → Option Kv
  | [], _ => none
  | q :: t, n => if q.1 = n then some q.2 else atX t n
theorem atX_in {l : List Kn} {n : ByteArray} {v : Kv} (h : atX l n = some v) : (n, v) ∈ l := by
  induction l with
  | nil => cases h
  | cons x t ih =>
    rw [atX] at h
    split at h
    · rename_i e
      injection h with h
      subst e h
      simp
    · exact List.mem_cons_of_mem _ (ih h)
def getX (l : List Kn) (nm : ByteArray) : Kv := (atX l nm).getD ([], false)
end Go.Proofs.YtllogmokadcfmaaGreat.Index
