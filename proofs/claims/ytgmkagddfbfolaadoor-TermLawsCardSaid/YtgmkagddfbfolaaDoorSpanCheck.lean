/-
  Contracts of Check, the program's and the document's: whether spans are a set. Condition: the slice reads as spans.
-/
import Derived.Test.YtgmkagddfbfolaaDoorSpanCells
namespace Go.Proofs.YtgmkagddfbfolaaDoor.Span
open Go.RowKit Go.Lib
set_option linter.unusedVariables false
theorem set_step {l : List S} {i : Nat} {s : S} {e r : Int} {b : Bool} (h : l[i]? = some s) (hb : b = isSet e (l.drop i)) :
    b = (decide (e < s.1) && decide (s.1 < s.2) && decide (s.2 ≤ 1000000000) && isSet s.2 (l.drop (i + 1))) := by
  have hi : i < l.length := (List.getElem?_eq_some_iff.1 h).1
  have hd : l.drop i = s :: l.drop (i + 1) := by
    rw [List.drop_eq_getElem_cons hi]
    rw [(List.getElem?_eq_some_iff.1 h).2]
  rw [hb, hd]; rfl
set_option maxHeartbeats 1000000 in
theorem check_any {B n c : Nat} {A : Option Addr} {l : List S} (w : World) (h : SpIn w B A n l) (hB : B ≤ w.heap.size) (hn : n ≤ 1000000001) :
    Calls Tryd.prog 28 #[.slice A n c] w fun e w' => e = .returned (.bool (isSet (-1) l)) ∧ Below w.heap.size w w' := by
  have hl : l.length = n := h.1
  obtain ⟨r, hr⟩ : ∃ r, r = isSet (-1) l := ⟨_, rfl⟩
  rw [← hr]
  have Hr := hide hr
  clear hr
  go_enter Tryd.func28, Tryd.ntmps28
  go_wp2
  go_loopw [3, 8] (fun u v wr => ∃ (i : Nat) (e : Int), i ≤ n ∧ u = .int .i64 e ∧ v = .int .i64 (i : Int) ∧ Hid (r = isSet e (l.drop i)) ∧ Below w.heap.size w wr) (fun _ v _ => n - (intOf v).toNat)
  case atStart => exact ⟨0, -1, by omega, rfl, rfl, Hr, Below.refl _ _⟩
  case round =>
    obtain ⟨i, e, hi, rfl, rfl, hf, hb⟩ := hrel
    by_cases hlt : i < n
    · obtain ⟨ad, s, rfl, hbl, hx, c1, c2⟩ := (h.below (hb.mono hB)).at_ hlt
      have hst := hide (@set_step l i s e 0 r hx hf.out)
      obtain ⟨x, y⟩ := s
      simp only [] at hst c1 c2
      clear hx hf Hr
      by_cases g1 : x ≤ e
      · have e2 := hide (show r = false by rw [hst.out, decide_eq_false (show ¬ e < x by omega)]; rfl)
        clear hst
        go_wp2
        go_ret
        exact ⟨by rw [e2.out]; rfl, hb.alloc hb.size _⟩
      · by_cases g2 : y ≤ x
        · have e2 := hide (show r = false by rw [hst.out, decide_eq_false (show ¬ x < y by omega), Bool.and_false]; rfl)
          clear hst
          go_wp2
          go_ret
          exact ⟨by rw [e2.out]; rfl, hb.alloc hb.size _⟩
        · by_cases g3 : y > 1000000000
          · have e2 := hide (show r = false by rw [hst.out, decide_eq_false (show ¬ y ≤ 1000000000 by omega), Bool.and_false]; rfl)
            clear hst
            go_wp2
            go_ret
            exact ⟨by rw [e2.out]; rfl, hb.alloc hb.size _⟩
          · have e2 := hide (show r = isSet y (l.drop (i + 1)) by rw [hst.out, decide_eq_true (show e < x by omega), decide_eq_true (show x < y by omega), decide_eq_true (show y ≤ 1000000000 by omega)]; rfl)
            clear hst
            go_wp2
            go_roundw
            case rel => exact ⟨i + 1, y, by omega, rfl, by go_num, e2, hb.alloc hb.size _⟩
            case measure => simp [intOf]; omega
    · have hi2 : i = n := by omega
      subst hi2
      have e2 : r = true := by rw [hf.out, List.drop_of_length_le (by omega)]; rfl
      have E2 := hide e2
      clear hf Hr e2
      go_wp2
      go_ret
      exact ⟨by rw [E2.out]; rfl, hb⟩
end Go.Proofs.YtgmkagddfbfolaaDoor.Span
