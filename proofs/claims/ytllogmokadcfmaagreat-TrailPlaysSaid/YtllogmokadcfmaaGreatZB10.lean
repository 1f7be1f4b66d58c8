/-
  Some texts of this claim, one behind the other: VlqReadsM. What each proves, and its condition, stands at its head.
-/
import Derived.Test.YtllogmokadcfmaaGreatZB9
import Derived.Test.YtllogmokadcfmaaGreatZB1
import Derived.Test.YtllogmokadcfmaaGreatChecked
import Derived.Lib.SlBytesConst
import Derived.Laws.BitsAllLaws
import Derived.Laws.BitsLemmas
import Derived.Deep.DeepMust
import Derived.Deep.RegionHeld3
/-
  How the program's reader and the document's go side by side, as plain mathematics and as memory. No condition.
-/
namespace Go.Proofs.YtllogmokadcfmaaGreat.Vlq
open Go.RowKit
set_option linter.unusedVariables false
def RdsIn (w : World) (B : Nat) (A : Option Addr) (n : Nat) (ps : List (Int × Int)) : Prop :=
  ps.length = n ∧ (0 < n → ∃ ad, A = some ad ∧ ad.block < B ∧ ∀ i p, ps[i]? = some p → w.cell? (ad.add (i * 2)) = some (.int .i64 p.1) ∧ w.cell? (ad.add (i * 2 + 1)) = some (.int .i64 p.2))
theorem add_field (ad : Addr) (k : Nat) : ad.add (k + 1) = ⟨(ad.add k).block, (ad.add k).off + 1, none⟩ := by
  unfold Addr.add
  by_cases h : k = 0 <;> simp [h, Nat.add_assoc]
theorem RdsIn.at_ {w : World} {B n k : Nat} {A : Option Addr} {ps : List (Int × Int)} (h : RdsIn w B A n ps) (hk : k < n) :
    ∃ ad x y, A = some ad ∧ ad.block < B ∧ w.cell? (ad.add (k * 2)) = some (.int .i64 x) ∧ w.cell? ⟨(ad.add (k * 2)).block, (ad.add (k * 2)).off + 1, none⟩ = some (.int .i64 y) := by
  obtain ⟨hl, h⟩ := h
  obtain ⟨ad, hA, hb, hc⟩ := h (by omega)
  have hp : ps[k]? = some ps[k] := by simp
  exact ⟨ad, ps[k].1, ps[k].2, hA, hb, (hc k _ hp).1, by rw [← add_field]; exact (hc k _ hp).2⟩
end Go.Proofs.YtllogmokadcfmaaGreat.Vlq
