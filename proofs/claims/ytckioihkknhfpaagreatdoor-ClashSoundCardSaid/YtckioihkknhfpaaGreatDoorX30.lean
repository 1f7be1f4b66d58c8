/-
  Some texts of this claim, one behind the other: TermAwake. What each proves, and its condition, stands at its head.
-/
import Derived.Test.YtckioihkknhfpaaGreatDoorX27
import Derived.Test.YtckioihkknhfpaaGreatDoorX22
/-
  The chapter's example of terms (awake): it holds. Condition: the tables hold what the texts lay in them.
-/
namespace Go.Proofs.YtckioihkknhfpaaGreatDoor.Term
open Go Go.RowKit Go.Lib Go.Proofs.YtckioihkknhfpaaGreatDoor.Span Go.Proofs.YtckioihkknhfpaaGreatDoor.Need Go.Proofs.YtckioihkknhfpaaGreatDoor.Grow
open Go.Proofs.YtckioihkknhfpaaGreatDoor.Label (runes fitL)
open Go.Proofs.YtckioihkknhfpaaGreatDoor.Rule (showL joinL partL tz tz_in)
open Go.Proofs.YtckioihkknhfpaaGreatDoor.Ver (Tabs txt pA pB pC)
set_option linter.unusedVariables false
theorem txt_small {p a b c : Nat} (ha : pA p = a) (hb : pB p = b) (hc : pC p = c) (h1 : a < 10) (h2 : b < 10) (h3 : c < 10) : txt p = [UInt8.ofNat (48 + a), 46, UInt8.ofNat (48 + b), 46, UInt8.ofNat (48 + c)] := by
  unfold txt
  rw [ha, hb, hc, decDigits_one h1, decDigits_one h2, decDigits_one h3]
  rfl
theorem z100 : tz 1000000 = [49, 46, 48, 46, 48] := (tz_in (by omega) (by omega)).trans (txt_small (a := 1) (b := 0) (c := 0) rfl rfl rfl (by omega) (by omega) (by omega))
def exA : ByteArray := ⟨#[97]⟩
def exS : List S := [(1000000, 1000001)]
def exN : List S := [(0, 1000000), (1000001, 1000000000)]
theorem showS : showL exS = [61, 49, 46, 48, 46, 48] := by
  unfold showL
  rw [if_neg (by decide), if_neg (by decide), if_neg (by decide)]
  simp only [exS, joinL, partL]
  rw [if_pos (by decide), z100]
def tmO (t : Tm) : Rel := fun w v => ∃ A n c, v = .agg #[.string t.name, .slice A n c, .bool t.none] ∧ SpOn w A n t.set
def Ans (w : World) (t : Tm) (e : Ending) (w' : World) : Prop := ∃ A n c, e = .returned (.agg #[.string t.name, .slice A n c, .bool t.none]) ∧ SpOn w' A n t.set ∧ Below w.heap.size w w'
theorem small_of {t : Tm} (h : largeT t = false) : t.set.length ≤ 60 ∧ t.name.size ≤ 200 := by
  unfold largeT at h
  simp only [Bool.or_eq_false_iff, decide_eq_false_iff_not] at h
  omega
end Go.Proofs.YtckioihkknhfpaaGreatDoor.Term
