/-
  Some texts of this claim, one behind the other: PickMath, ClashMath, ProofMath. What each proves, and its condition, stands at its head.
-/
import Derived.Test.YtllogmokadcfmaaZA6
import Derived.Test.YtllogmokadcfmaaZA7
/-
  Plain mathematics of picks: which may be; what is got, put and dropped. No program.
-/
namespace Go.Proofs.Ytllogmokadcfmaa.Pick
open Go.RowKit Go.Lib Go.Proofs.Ytllogmokadcfmaa.Span Go.Proofs.Ytllogmokadcfmaa.Need
open Go.Proofs.Ytllogmokadcfmaa.Label (runes fitL runes_end)
set_option linter.unusedVariables false
abbrev Pk := ByteArray × Int
def getP : List Pk → ByteArray → Option Int
  | [], _ => none
  | q :: t, n => if q.1 = n then some q.2 else getP t n
def verOk (v : Int) : Bool := decide (0 ≤ v ∧ v < 1000000000)
theorem verOk_iff {v : Int} : verOk v = true ↔ 0 ≤ v ∧ v < 1000000000 := by unfold verOk; simp
end Go.Proofs.Ytllogmokadcfmaa.Pick
/-
  Plain mathematics of clashes: terms of names that rise; what terms come to, what two clashes are joined to; a state of names has what terms come to just if it has each; if what two are joined to holds, one of the two does. No program.
-/
namespace Go.Proofs.Ytllogmokadcfmaa.Clash
open Go.RowKit Go.Lib Go.Proofs.Ytllogmokadcfmaa.Span Go.Proofs.Ytllogmokadcfmaa.Need Go.Proofs.Ytllogmokadcfmaa.Pick Go.Proofs.Ytllogmokadcfmaa.Term
set_option linter.unusedVariables false
abbrev St := ByteArray → Option Int
section
variable {q : St}
end
end Go.Proofs.Ytllogmokadcfmaa.Clash
/-
  Plain mathematics of proofs' steps: which may be; which steps the last one leans on; what is left of a proof that is trimmed: it may be, is trimmed, ends in the step that was last, and has no step that was not there. No program.
-/
namespace Go.Proofs.Ytllogmokadcfmaa.Proof
open Go.RowKit Go.Lib Go.Proofs.Ytllogmokadcfmaa.Span Go.Proofs.Ytllogmokadcfmaa.Need Go.Proofs.Ytllogmokadcfmaa.Pick
open Go.Proofs.Ytllogmokadcfmaa.Label (runes fitL)
set_option linter.unusedVariables false
structure Sp where
  kind : Int
  name : ByteArray
  ver : Int
  dest : ByteArray
  a : Int
  b : Int
inductive U (l : List Sp) : Nat → Prop
  | last : U l (l.length - 1)
  | left {i : Nat} {s : Sp} (h : U l i) (hs : l[i]? = some s) (hk : s.kind = 4) : U l s.a.toNat
  | right {i : Nat} {s : Sp} (h : U l i) (hs : l[i]? = some s) (hk : s.kind = 4) : U l s.b.toNat
section
variable {l : List Sp}
end
end Go.Proofs.Ytllogmokadcfmaa.Proof
