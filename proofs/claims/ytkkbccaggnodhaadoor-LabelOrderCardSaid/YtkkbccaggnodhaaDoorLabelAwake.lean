/-
  The contract of the statements' own examples of label: they hold. No condition.
-/
import Derived.Test.YtkkbccaggnodhaaDoorLabelFit
import Derived.Test.YtkkbccaggnodhaaDoorLabelClip
import Derived.Test.YtkkbccaggnodhaaDoorGrowWords
namespace Go.Proofs.YtkkbccaggnodhaaDoor.Label
open Go.RowKit Go.Lib Go.Proofs.YtkkbccaggnodhaaDoor.Grow
set_option linter.unusedVariables false
theorem runes_a1 : runes ⟨#[206, 177, 45, 49]⟩ 0 = [945, 45, 49] := by
  rw [runes_step _ _ (by decide), show wd ⟨#[206, 177, 45, 49]⟩ 0 = 2 from rfl, show rn ⟨#[206, 177, 45, 49]⟩ 0 = 945 from rfl]
  rw [runes_step _ _ (by decide), show wd ⟨#[206, 177, 45, 49]⟩ (0 + 2) = 1 from rfl, show rn ⟨#[206, 177, 45, 49]⟩ (0 + 2) = 45 from rfl]
  rw [runes_step _ _ (by decide), show wd ⟨#[206, 177, 45, 49]⟩ (0 + 2 + 1) = 1 from rfl, show rn ⟨#[206, 177, 45, 49]⟩ (0 + 2 + 1) = 49 from rfl]
  rw [runes_end _ _ (by decide)]
theorem runes_1a : runes ⟨#[49, 97]⟩ 0 = [49, 97] := by
  rw [runes_step _ _ (by decide), show wd ⟨#[49, 97]⟩ 0 = 1 from rfl, show rn ⟨#[49, 97]⟩ 0 = 49 from rfl]
  rw [runes_step _ _ (by decide), show wd ⟨#[49, 97]⟩ (0 + 1) = 1 from rfl, show rn ⟨#[49, 97]⟩ (0 + 1) = 97 from rfl]
  rw [runes_end _ _ (by decide)]
theorem runes_ab : runes ⟨#[206, 177, 206, 178]⟩ 0 = [945, 946] := by
  rw [runes_step _ _ (by decide), show wd ⟨#[206, 177, 206, 178]⟩ 0 = 2 from rfl, show rn ⟨#[206, 177, 206, 178]⟩ 0 = 945 from rfl]
  rw [runes_step _ _ (by decide), show wd ⟨#[206, 177, 206, 178]⟩ (0 + 2) = 2 from rfl, show rn ⟨#[206, 177, 206, 178]⟩ (0 + 2) = 946 from rfl]
  rw [runes_end _ _ (by decide)]
theorem fit_a1 : fitL (runes ⟨#[206, 177, 45, 49]⟩ 0) = true := by rw [runes_a1]; rfl
theorem fit_1a : fitL (runes ⟨#[49, 97]⟩ 0) = false := by rw [runes_1a]; rfl
theorem size_ab : (runes ⟨#[206, 177, 206, 178]⟩ 0).length = 2 := by rw [runes_ab]; rfl
theorem clip_ab : clipS ⟨#[206, 177, 206, 178]⟩ 1 = ⟨#[206, 177]⟩ := by rfl
theorem h_a1 (w : World) : Calls Tryd.prog 8 #[.string ⟨#[206, 177, 45, 49]⟩] w fun e w' => e = .returned (.bool true) ∧ Below w.heap.size w w' := by
  have h := fit_any ⟨#[206, 177, 45, 49]⟩ w (by decide)
  rw [fit_a1] at h
  exact h
theorem h_1a (w : World) : Calls Tryd.prog 8 #[.string ⟨#[49, 97]⟩] w fun e w' => e = .returned (.bool false) ∧ Below w.heap.size w w' := by
  have h := fit_any ⟨#[49, 97]⟩ w (by decide)
  rw [fit_1a] at h
  exact h
theorem h_ab (w : World) : Calls Tryd.prog 11 #[.string ⟨#[206, 177, 206, 178]⟩] w fun e w' => e = .returned (.int .i64 2) ∧ Below w.heap.size w w' := by
  have h := size_any ⟨#[206, 177, 206, 178]⟩ w (by decide)
  rw [size_ab] at h
  exact h
theorem h_cl (w : World) : Calls Tryd.prog 10 #[.string ⟨#[206, 177, 206, 178]⟩, .int .i64 1] w fun e w' => e = .returned (.string ⟨#[206, 177]⟩) ∧ Below w.heap.size w w' := by
  have h := clip_any ⟨#[206, 177, 206, 178]⟩ 1 w (by decide) (by decide) (by decide)
  rw [clip_ab] at h
  exact h
set_option maxRecDepth 100000 in
theorem awake_any (w : World) :
    Calls Tryd.prog 5 #[] w fun e w' => e = .returned (.bool true) ∧ Below w.heap.size w w' := by
  have H1 := hide h_a1
  have H2 := hide h_1a
  have H3 := hide h_ab
  have H4 := hide h_cl
  go_enter Tryd.func5, Tryd.ntmps5
  go_wp2_with (first
    | (go_at_call 8
       refine (H2.out w1).mono ?_
       rintro e w2 ⟨rfl, hb2⟩)
    | (go_at_call 8
       refine (H1.out w).mono ?_
       rintro e w1 ⟨rfl, hb1⟩)
    | (go_at_call 11
       refine (H3.out w2).mono ?_
       rintro e w3 ⟨rfl, hb3⟩)
    | (go_at_call 10
       refine (H4.out w3).mono ?_
       rintro e w4 ⟨rfl, hb4⟩))
  go_ret
  exact ⟨rfl, ((hb1.trans (hb2.mono hb1.size)).trans (hb3.mono (Nat.le_trans hb1.size hb2.size))).trans (hb4.mono (Nat.le_trans (Nat.le_trans hb1.size hb2.size) hb3.size))⟩
end Go.Proofs.YtkkbccaggnodhaaDoor.Label
