/-
  The contract of the document's Check: whether spans are a set. Condition: the slice reads as spans.
-/
import Derived.Test.YtgmkagddfbfolaaDoorSpanCheck
namespace Go.Proofs.YtgmkagddfbfolaaDoor.Span
open Go.RowKit Go.Lib
set_option linter.unusedVariables false
set_option maxHeartbeats 4000000 in
set_option maxRecDepth 100000 in
theorem refCheck_any {B n c : Nat} {A : Option Addr} {l : List S} (w : World) (h : SpIn w B A n l) (hn : n ≤ 1000000001) :
    Calls Tryd.prog 30 #[.slice A n c] w fun e w' => e = .returned (.bool (isSet (-1) l)) ∧ ∃ k, w' = w.drewN k := by
  have hl : l.length = n := h.1
  obtain ⟨r, hr⟩ : ∃ r, r = isSet (-1) l := ⟨_, rfl⟩
  rw [← hr]
  have Hr := hide hr
  clear hr
  go_enter Tryd.func30, Tryd.ntmps30
  go_wp2
  go_loopw [3] (fun v wr => ∃ (i : Nat) (e : Int), i ≤ n ∧ v = .int .i64 (i : Int) ∧ -1 ≤ e ∧ Hid (r = isSet e (l.drop i)) ∧ Hid (i = 0 ∧ e = -1 ∨ ∃ m x, i = m + 1 ∧ l[m]? = some (x, e)) ∧ ∃ k, wr = w.drewN k) (fun v _ => n - (intOf v).toNat)
  case atStart => exact ⟨0, -1, by omega, rfl, by omega, Hr, hide (.inl ⟨rfl, rfl⟩), 0, rfl⟩
  case round =>
    obtain ⟨i, e, hi, rfl, hem, hf, he, k, rfl⟩ := hrel
    by_cases hlt : i < n
    · obtain ⟨ad, s, rfl, hbl, hx, c1, c2⟩ := h.at_ hlt
      have hst := hide (@set_step l i s e 0 r hx hf.out)
      have Hx := hide hx
      obtain ⟨x, y⟩ := s
      simp only [] at hst c1 c2
      clear hx hf Hr
      have i1 : (0 : Int) ≤ (i : Int) := by omega
      have i2 : (i : Int) < (n : Int) := by omega
      go_upto_region 4 with fail
      by_cases g1 : x < 0
      · have d1 : decide (x < 0) = true := decide_eq_true g1
        have e2 := hide (show r = false by rw [hst.out, decide_eq_false (show ¬ e < x by omega)]; rfl)
        clear hst
        go_quiet (fail)
        go_wp2_with fail
        go_ret
        exact ⟨by rw [e2.out]; rfl, _, by first | rfl | exact World.drewN_drewN _ _ _⟩
      · have d1 : decide (x < 0) = false := decide_eq_false g1
        by_cases g2 : 1000000000 < y
        · have d2 : decide (1000000000 < y) = true := decide_eq_true g2
          have e2 := hide (show r = false by rw [hst.out, decide_eq_false (show ¬ y ≤ 1000000000 by omega), Bool.and_false]; rfl)
          clear hst
          go_quiet (fail)
          go_wp2_with fail
          go_ret
          exact ⟨by rw [e2.out]; rfl, _, by first | rfl | exact World.drewN_drewN _ _ _⟩
        · have d2 : decide (1000000000 < y) = false := decide_eq_false g2
          by_cases g3 : y ≤ x
          · have d3 : decide (y ≤ x) = true := decide_eq_true g3
            have e2 := hide (show r = false by rw [hst.out, decide_eq_false (show ¬ x < y by omega), Bool.and_false]; rfl)
            clear hst
            go_quiet (fail)
            go_wp2_with fail
            go_ret
            exact ⟨by rw [e2.out]; rfl, _, by first | rfl | exact World.drewN_drewN _ _ _⟩
          · have d3 : decide (y ≤ x) = false := decide_eq_false g3
            have hgo := hide (fun h1 : e < x => show r = isSet y (l.drop (i + 1)) by rw [hst.out, decide_eq_true h1, decide_eq_true (show x < y by omega), decide_eq_true (show y ≤ 1000000000 by omega)]; rfl)
            have hno := hide (fun h1 : ¬ e < x => show r = false by rw [hst.out, decide_eq_false h1]; rfl)
            clear hst
            have hnx := hide (show (i + 1 = 0 ∧ y = -1 ∨ ∃ m x, i + 1 = m + 1 ∧ l[m]? = some (x, y)) from .inr ⟨i, x, rfl, Hx.out⟩)
            rcases he.out with ⟨rfl, rfl⟩ | ⟨m, x', rfl, hm⟩
            · have hg := hgo.out (by omega)
              have Hg := hide hg
              have ha : ad.add (0 * 2) = ad := by simp [Addr.add]
              rw [ha] at c1 c2
              clear hg hgo hno he Hx
              go_quiet (fail)
              go_wp2_with fail
              go_roundw
              case rel => exact ⟨0 + 1, y, by omega, by go_num, by omega, Hg, hnx, _, rfl⟩
              case measure => simp [intOf]; omega
            · obtain ⟨ad', s', hA, _, hx', c1', c2'⟩ := h.at_ (k := m) (by omega)
              injection hA with hA
              subst hA
              rw [hm] at hx'
              injection hx' with hx'
              subst hx'
              simp only [] at c1' c2'
              clear hm he Hx
              by_cases g4 : x ≤ e
              · have d4 : decide (x ≤ e) = true := decide_eq_true g4
                have hg := hno.out (by omega)
                have Hg := hide hg
                clear hg hgo hno
                go_quiet (fail)
                go_wp2_with fail
                go_ret
                exact ⟨by rw [Hg.out]; rfl, _, by first | rfl | exact World.drewN_drewN _ _ _⟩
              · have d4 : decide (x ≤ e) = false := decide_eq_false g4
                have hg := hgo.out (by omega)
                have Hg := hide hg
                clear hg hgo hno
                go_quiet (fail)
                go_wp2_with fail
                go_roundw
                case rel => exact ⟨m + 1 + 1, y, by omega, by go_num, by omega, Hg, hnx, _, rfl⟩
                case measure => simp [intOf]; omega
    · have hi2 : i = n := by omega
      subst hi2
      have e2 : r = true := by rw [hf.out, List.drop_of_length_le (by omega)]; rfl
      have E2 := hide e2
      clear hf Hr e2 he
      go_wp2
      go_ret
      exact ⟨by rw [E2.out]; rfl, _, rfl⟩
end Go.Proofs.YtgmkagddfbfolaaDoor.Span
