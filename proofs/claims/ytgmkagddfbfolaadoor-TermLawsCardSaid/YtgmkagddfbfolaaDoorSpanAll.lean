/-
  All and One, the program's All too; the set of any spans, as plain data. No condition.
-/
import Derived.Test.YtgmkagddfbfolaaDoorSpanPut
namespace Go.Proofs.YtgmkagddfbfolaaDoor.Span
open Go.RowKit Go.Lib
set_option linter.unusedVariables false
noncomputable def ofS (l : List S) : List S := nf (has l)
/-- One. -/
noncomputable def oneS (p : Int) : List S := nf fun q => decide (q = p)
theorem all_any (w : World) :
    Calls Tryd.prog 35 #[] w fun e w' => ∃ A' m c', e = .returned (.slice A' m c') ∧ SpIn w' w'.heap.size A' m [(0, 1000000000)] ∧ Below w.heap.size w w' := by
  have hrd := hide (spIn_of_reads (reads_one w 0 1000000000 _ rfl))
  go_enter Tryd.func35, Tryd.ntmps35
  go_wp2
  go_ret
  exact ⟨_, _, _, rfl, (hrd.out).more (by simp), (Below.refl _ _).alloc (Nat.le_refl _) _⟩
theorem refAll_any (w : World) :
    Calls Tryd.prog 36 #[] w fun e w' => ∃ A' m c', e = .returned (.slice A' m c') ∧ SpIn w' w'.heap.size A' m [(0, 1000000000)] ∧ Below w.heap.size w w' := by
  have hrd := hide (spIn_of_reads (reads_one w 0 1000000000 _ rfl))
  go_enter Tryd.func36, Tryd.ntmps36
  go_wp2
  go_ret
  exact ⟨_, _, _, rfl, (hrd.out).more (by simp), (Below.refl _ _).alloc (Nat.le_refl _) _⟩
theorem oneS_none {p : Int} (h : ¬ (0 ≤ p ∧ p < 1000000000)) : oneS p = [] := nf_nil.2 fun q h0 h1 => decide_eq_false (by omega)
theorem oneS_some {p : Int} (h0 : 0 ≤ p) (h1 : p < 1000000000) : oneS p = [(p, p + 1)] := by
  refine (is_nf (L := [(p, p + 1)]) ?_ fun q _ _ => ?_).symm
  · rw [isSet_cons]; exact ⟨by simp only []; omega, by simp only []; omega, by simp only []; omega, rfl⟩
  · rw [has_one, Bool.eq_iff_iff]; simp; omega
end Go.Proofs.YtgmkagddfbfolaaDoor.Span
