/-
  Some texts of this claim, one behind the other: NeedFind. What each proves, and its condition, stands at its head.
-/
import Derived.Test.YtllogmokadcfmaaGreatZB16
import Derived.Test.YtllogmokadcfmaaGreatZB3
import Derived.Test.YtllogmokadcfmaaGreatZB31
import Derived.Test.YtllogmokadcfmaaGreatZB21
import Derived.Test.YtllogmokadcfmaaGreatZB22
/-
  Contracts of clone and Find: a need that is alike and new; what is needed of a name. Condition: names of at most 1,000,000,000 bytes, sets of at most 1,000,000,001 spans.
-/
namespace Go.Proofs.YtllogmokadcfmaaGreat.Need
open Go Go.RowKit Go.Lib Go.Proofs.YtllogmokadcfmaaGreat.Span Go.Proofs.YtllogmokadcfmaaGreat.Grow
open Go.Proofs.YtllogmokadcfmaaGreat.Label (runes fitL)
set_option linter.unusedVariables false
theorem reads_of_spIn {w : World} {B n : Nat} {A : Option Addr} {l : List S} (h : SpIn w B A n l) : Reads w B 2 A n (scs l) := by
  refine ⟨by rw [scs_length, h.1], fun hn => ?_⟩
  obtain ⟨ad, hA, hb, hc⟩ := h.2 hn
  refine ⟨ad, hA, hb, fun j u hu => ?_⟩
  have hj : j < l.length * 2 := by
    have := (List.getElem?_eq_some_iff.1 hu).1
    rwa [scs_length] at this
  have hi : l[j / 2]? = some (l[j / 2]'(by omega)) := by simp
  obtain ⟨c1, c2⟩ := hc _ _ hi
  obtain ⟨g1, g2⟩ := scs_get l _ _ hi
  rcases Nat.mod_two_eq_zero_or_one j with h0 | h0
  · have ej : j = j / 2 * 2 := by omega
    rw [ej, g1] at hu
    injection hu with hu
    subst hu
    rw [← ej] at c1
    exact c1
  · have ej : j = j / 2 * 2 + 1 := by omega
    rw [ej, g2] at hu
    injection hu with hu
    subst hu
    rw [← add_field, ← ej] at c2
    exact c2
def isS (B : Nat) (l : List S) : Rel := fun w v => ∃ A n c, v = .slice A n c ∧ NewS w B A n c l
theorem isS_stable (B : Nat) (l : List S) : ∀ w w' v, Below w.heap.size w w' → isS B l w v → isS B l w' v :=
  fun _ _ _ hb ⟨A, n, c, hv, hn⟩ => ⟨A, n, c, hv, hn.below hb⟩
theorem below_none {w w' : World} (h : w.grownBy w' none) : Below w.heap.size w w' := ⟨h.os, h.tape, h.output, h.size, fun i hi => h.block i hi (by simp)⟩
theorem slice_def2 (A : Option Addr) (n c : Nat) : Value.slice A n c ≠ undef := by intro h; cases h
def storesN (g B : Nat) (nm : ByteArray) (s : List S) : Wr := fun w1 _ w2 => ∃ A n c, NewS w1 B A n c s ∧ w2 = (w1.setCell ⟨g, 0, none⟩ (.string nm)).setCell ⟨g, 1, none⟩ (.slice A n c)
end Go.Proofs.YtllogmokadcfmaaGreat.Need
