/-
  Contracts of Same, the program's (over the library's Equal) and the document's: whether two lists are alike. Condition: the slices read as spans.
-/
import Derived.Test.YtgmkagddfbfolaaDoorSpanCells
namespace Go.Proofs.YtgmkagddfbfolaaDoor.Span
open Go.RowKit Go.Lib
set_option linter.unusedVariables false
/-- Whether two pairs are alike. -/
def same2 (a b c d : Int) : Bool := (a == c) && (b == d)
set_option maxRecDepth 100000 in
/-- '==' on spans. -/
theorem eq_span (a b c d : Int) (w : World) : (Op.equalIn 10000 34 (.agg #[.int .i64 a, .int .i64 b]) (.agg #[.int .i64 c, .int .i64 d])).run Tryd.prog w = .ok (same2 a b c d) w := by
  have hf : Tryd.prog.underlying 34 = some (.struct (Tryd.prog.fieldsOf 34)) := by kernel_rfl
  have hs : Tryd.prog.stoodInHeld 34 = false := by kernel_rfl
  have hl := hf.symm.trans Tryd.underlying34
  injection hl with hl
  injection hl with hl
  have ha : ∀ w, (isAgg 3).run Tryd.prog w = .ok false w := Tryd.isAgg3
  rw [run_equalIn_struct w 9999 _ _ _ hf hs, hl]
  unfold same2
  cases hx : (a == c) <;> cases hy : (b == d) <;>
    simp [Op.eqFields, part, ha, run_equalIn_int _ 9998 3 .i64 .i64 _ _ Tryd.underlying3, hx, hy]
theorem same2_iff (s t : S) : same2 s.1 s.2 t.1 t.2 = decide (s = t) := by
  unfold same2
  rw [Bool.eq_iff_iff]
  simp [Prod.ext_iff]
theorem same_snoc {l m : List S} {i : Nat} {s t : S} (h : l.take i = m.take i) (h1 : l[i]? = some s) (h2 : m[i]? = some t) (h3 : s = t) : l.take (i + 1) = m.take (i + 1) := by
  rw [List.take_add_one, List.take_add_one, h, h1, h2, h3]
theorem same_ne {l m : List S} {i : Nat} {s t : S} (h1 : l[i]? = some s) (h2 : m[i]? = some t) (h3 : ¬ s = t) : decide (l = m) = false := by
  refine decide_eq_false fun e => ?_
  subst e
  rw [h1] at h2
  injection h2 with h2
  exact h3 h2
set_option maxHeartbeats 1000000 in
theorem equal_any {B n c B' n' c' : Nat} {A A' : Option Addr} {l m : List S} (w : World) (h : SpIn w B A n l) (h' : SpIn w B' A' n' m) (hn : n ≤ 1000000001) (hn' : n' ≤ 1000000001) :
    Calls Tryd.prog 55 #[.slice A n c, .slice A' n' c'] w fun e w' => e = .returned (.bool (decide (l = m))) ∧ ∃ k, w' = w.drewN k := by
  have hl : l.length = n := h.1
  have hm : m.length = n' := h'.1
  have heq := eq_span
  obtain ⟨r, hr⟩ : ∃ r, r = decide (l = m) := ⟨_, rfl⟩
  rw [← hr]
  have Hr := hide hr
  clear hr
  by_cases hnn : n = n'
  · subst hnn
    go_enter Tryd.func55, Tryd.ntmps55
    go_wp2
    go_loopw [13] (fun v wr => ∃ (i : Nat), i ≤ n ∧ v = .int .i64 (i : Int) ∧ Hid (l.take i = m.take i) ∧ ∃ k, wr = w.drewN k) (fun v _ => n - (intOf v).toNat)
    case atStart => exact ⟨0, by omega, rfl, hide rfl, 0, rfl⟩
    case round =>
      obtain ⟨i, hi, rfl, hf, k, rfl⟩ := hrel
      by_cases hlt : i < n
      · obtain ⟨ad, s, rfl, hbl, hx, c1, c2⟩ := h.at_ hlt
        obtain ⟨ad', t, rfl, hbl', hx', c1', c2'⟩ := h'.at_ hlt
        have hsn := hide (@same_snoc l m i s t hf.out hx hx')
        have hne := hide (@same_ne l m i s t hx hx')
        have hsi := hide (same2_iff s t)
        obtain ⟨x, y⟩ := s
        obtain ⟨x', y'⟩ := t
        simp only [] at hsn hne hsi c1 c2 c1' c2'
        clear hx hx' hf
        have hq := heq x y x' y'
        clear heq
        generalize hb : same2 x y x' y' = b at *
        clear hb
        go_upto_region 6 with fail
        go_quiet (fail)
        cases b
        · go_wp2_with fail
          go_ret
          have e := hne.out (by intro e; have := hsi.out; rw [e] at this; simp at this)
          have e2 : r = false := by rw [Hr.out]; exact e
          exact ⟨by rw [e2]; rfl, _, World.drewN_drewN _ _ _⟩
        · go_wp2_with fail
          have e := hsn.out (by have := hsi.out; simpa using this)
          go_roundw
          case rel => exact ⟨i + 1, by omega, by go_num, e, _, rfl⟩
          case measure => simp [intOf]; omega
      · have hi2 : i = n := by omega
        subst hi2
        have hq := hf.out
        rw [List.take_of_length_le (by omega), List.take_of_length_le (by omega)] at hq
        have e2 : r = true := by rw [Hr.out]; exact decide_eq_true hq
        have E2 := hide e2
        clear hf hq e2
        go_wp2
        go_ret
        exact ⟨by rw [E2.out]; rfl, _, rfl⟩
  · have e2 : r = false := by rw [Hr.out]; exact decide_eq_false fun e => hnn (by rw [← hl, ← hm, e])
    have E2 := hide e2
    clear e2
    go_enter Tryd.func55, Tryd.ntmps55
    go_wp2
    go_ret
    exact ⟨by rw [E2.out]; rfl, 0, rfl⟩
set_option maxHeartbeats 1000000 in
theorem refSame_any {B n c B' n' c' : Nat} {A A' : Option Addr} {l m : List S} (w : World) (h : SpIn w B A n l) (h' : SpIn w B' A' n' m) (hn : n ≤ 1000000001) (hn' : n' ≤ 1000000001) :
    Calls Tryd.prog 32 #[.slice A n c, .slice A' n' c'] w fun e w' => e = .returned (.bool (decide (l = m))) ∧ ∃ k, w' = w.drewN k := by
  have hl : l.length = n := h.1
  have hm : m.length = n' := h'.1
  have heq := eq_span
  obtain ⟨r, hr⟩ : ∃ r, r = decide (l = m) := ⟨_, rfl⟩
  rw [← hr]
  have Hr := hide hr
  clear hr
  by_cases hnn : n = n'
  · subst hnn
    go_enter Tryd.func32, Tryd.ntmps32
    go_wp2
    go_loopw [5] (fun v wr => ∃ (i : Nat), i ≤ n ∧ v = .int .i64 (i : Int) ∧ Hid (l.take i = m.take i) ∧ ∃ k, wr = w.drewN k) (fun v _ => n - (intOf v).toNat)
    case atStart => exact ⟨0, by omega, rfl, hide rfl, 0, rfl⟩
    case round =>
      obtain ⟨i, hi, rfl, hf, k, rfl⟩ := hrel
      by_cases hlt : i < n
      · obtain ⟨ad, s, rfl, hbl, hx, c1, c2⟩ := h.at_ hlt
        obtain ⟨ad', t, rfl, hbl', hx', c1', c2'⟩ := h'.at_ hlt
        have hsn := hide (@same_snoc l m i s t hf.out hx hx')
        have hne := hide (@same_ne l m i s t hx hx')
        have hsi := hide (same2_iff s t)
        obtain ⟨x, y⟩ := s
        obtain ⟨x', y'⟩ := t
        simp only [] at hsn hne hsi c1 c2 c1' c2'
        clear hx hx' hf
        have hq := heq x y x' y'
        clear heq
        generalize hb : same2 x y x' y' = b at *
        clear hb
        go_upto_region 6 with fail
        go_quiet (fail)
        cases b
        · go_wp2_with fail
          go_ret
          have e := hne.out (by intro e; have := hsi.out; rw [e] at this; simp at this)
          have e2 : r = false := by rw [Hr.out]; exact e
          exact ⟨by rw [e2]; rfl, _, World.drewN_drewN _ _ _⟩
        · go_wp2_with fail
          have e := hsn.out (by have := hsi.out; simpa using this)
          go_roundw
          case rel => exact ⟨i + 1, by omega, by go_num, e, _, rfl⟩
          case measure => simp [intOf]; omega
      · have hi2 : i = n := by omega
        subst hi2
        have hq := hf.out
        rw [List.take_of_length_le (by omega), List.take_of_length_le (by omega)] at hq
        have e2 : r = true := by rw [Hr.out]; exact decide_eq_true hq
        have E2 := hide e2
        clear hf hq e2
        go_wp2
        go_ret
        exact ⟨by rw [E2.out]; rfl, _, rfl⟩
  · have e2 : r = false := by rw [Hr.out]; exact decide_eq_false fun e => hnn (by rw [← hl, ← hm, e])
    have E2 := hide e2
    clear e2
    go_enter Tryd.func32, Tryd.ntmps32
    go_wp2
    go_ret
    exact ⟨by rw [E2.out]; rfl, 0, rfl⟩
theorem same_any {B n c B' n' c' : Nat} {A A' : Option Addr} {l m : List S} (w : World) (h : SpIn w B A n l) (h' : SpIn w B' A' n' m) (hn : n ≤ 1000000001) (hn' : n' ≤ 1000000001) :
    Calls Tryd.prog 31 #[.slice A n c, .slice A' n' c'] w fun e w' => e = .returned (.bool (decide (l = m))) ∧ ∃ k, w' = w.drewN k := by
  have He := hide (@equal_any B n c B' n' c' A A' l m w h h' hn hn')
  generalize decide (l = m) = r at *
  go_enter Tryd.func31, Tryd.ntmps31
  go_wp2_with (go_at_call 55; refine He.out.mono ?_; rintro e w1 ⟨rfl, k, rfl⟩)
  go_ret
  exact ⟨rfl, k, rfl⟩
end Go.Proofs.YtgmkagddfbfolaaDoor.Span
