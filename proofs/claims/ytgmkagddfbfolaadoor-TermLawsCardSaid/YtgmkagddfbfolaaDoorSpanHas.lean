/-
  Contracts of Has, the program's and the document's: of any spans. Condition: the slice reads as spans.
-/
import Derived.Test.YtgmkagddfbfolaaDoorSpanCells
namespace Go.Proofs.YtgmkagddfbfolaaDoor.Span
open Go.RowKit Go.Lib
set_option linter.unusedVariables false
theorem take_snoc_ (l : List S) (k : Nat) (a : S) (h : l[k]? = some a) : l.take (k + 1) = l.take k ++ [a] := by
  rw [List.take_add_one, h]; rfl
theorem has_in {l : List S} {i : Nat} {s : S} {p : Int} (h : l[i]? = some s) (h1 : s.1 ≤ p) (h2 : p < s.2) : has l p = true :=
  (has_iff l p).2 ⟨s, List.mem_of_getElem? h, h1, h2⟩
theorem has_next {l : List S} {i : Nat} {s : S} {p : Int} (h : l[i]? = some s) (h0 : has (l.take i) p = false) (h1 : ¬ (s.1 ≤ p ∧ p < s.2)) : has (l.take (i + 1)) p = false := by
  rw [take_snoc_ l i s h, has_append, h0, has_one, Bool.false_or]
  simpa using h1
set_option maxHeartbeats 1000000 in
theorem has_any {B n c : Nat} {A : Option Addr} {l : List S} (p : Int) (w : World) (h : SpIn w B A n l) (hB : B ≤ w.heap.size) (hn : n ≤ 1000000001) :
    Calls Tryd.prog 40 #[.slice A n c, .int .i64 p] w fun e w' => e = .returned (.bool (has l p)) ∧ Below w.heap.size w w' := by
  have hl : l.length = n := h.1
  go_enter Tryd.func40, Tryd.ntmps40
  go_wp2
  go_loopw [9] (fun v wr => ∃ (i : Nat), i ≤ n ∧ v = .int .i64 (i : Int) ∧ Hid (has (l.take i) p = false) ∧ Below w.heap.size w wr) (fun v _ => n - (intOf v).toNat)
  case atStart => exact ⟨0, by omega, rfl, hide rfl, Below.refl _ _⟩
  case round =>
    obtain ⟨i, hi, rfl, hf, hb⟩ := hrel
    by_cases hlt : i < n
    · obtain ⟨ad, s, rfl, hbl, hx, c1, c2⟩ := (h.below (hb.mono hB)).at_ hlt
      have hin := hide (@has_in l i s p hx)
      have hnx := hide (@has_next l i s p hx hf.out)
      obtain ⟨x, y⟩ := s
      simp only [] at hin hnx c1 c2
      clear hx hf
      by_cases g1 : x ≤ p
      · by_cases g2 : p < y
        · go_wp2
          go_ret
          exact ⟨by rw [hin.out g1 g2]; rfl, hb.alloc hb.size _⟩
        · go_wp2
          have hq := hnx.out (by omega)
          go_roundw
          case rel => exact ⟨i + 1, by omega, by go_num, hq, hb.alloc hb.size _⟩
          case measure => simp [intOf]; omega
      · go_wp2
        have hq := hnx.out (by omega)
        go_roundw
        case rel => exact ⟨i + 1, by omega, by go_num, hq, hb.alloc hb.size _⟩
        case measure => simp [intOf]; omega
    · have hi2 : i = n := by omega
      subst hi2
      have hq := hf.out
      rw [List.take_of_length_le (by omega)] at hq
      have Hq := hide hq
      clear hf hq
      go_wp2
      go_ret
      exact ⟨by rw [Hq.out]; rfl, hb⟩
set_option maxHeartbeats 1000000 in
theorem refHas_any {B n c : Nat} {A : Option Addr} {l : List S} (p : Int) (w : World) (h : SpIn w B A n l) (hn : n ≤ 1000000001) :
    Calls Tryd.prog 41 #[.slice A n c, .int .i64 p] w fun e w' => e = .returned (.bool (has l p && (decide (0 ≤ p) && decide (p < 1000000000)))) ∧ w = w' := by
  have hl : l.length = n := h.1
  obtain ⟨r, hr⟩ : ∃ r, r = (has l p && (decide (0 ≤ p) && decide (p < 1000000000))) := ⟨_, rfl⟩
  rw [← hr]
  have Hr := hide hr
  clear hr
  go_enter Tryd.func41, Tryd.ntmps41
  go_wp2
  go_loopw [5] (fun v wr => ∃ (i : Nat), i ≤ n ∧ v = .int .i64 (i : Int) ∧ Hid (has (l.take i) p = false) ∧ w = wr) (fun v _ => n - (intOf v).toNat)
  case atStart => exact ⟨0, by omega, rfl, hide rfl, rfl⟩
  case round =>
    obtain ⟨i, hi, rfl, hf, rfl⟩ := hrel
    by_cases hlt : i < n
    · obtain ⟨ad, s, rfl, hbl, hx, c1, c2⟩ := h.at_ hlt
      have hin := hide (@has_in l i s p hx)
      have hnx := hide (@has_next l i s p hx hf.out)
      obtain ⟨x, y⟩ := s
      simp only [] at hin hnx c1 c2
      clear hx hf
      by_cases g1 : x ≤ p
      · by_cases g2 : p < y
        · by_cases g3 : 0 ≤ p
          · by_cases g4 : p < 1000000000
            · go_wp2
              go_ret
              have e : r = true := by rw [Hr.out, hin.out g1 g2, decide_eq_true g3, decide_eq_true g4]; rfl
              exact ⟨by rw [e]; rfl, rfl⟩
            · go_wp2
              go_ret
              have e : r = false := by rw [Hr.out]; simp; omega
              exact ⟨by rw [e]; rfl, rfl⟩
          · go_wp2
            go_ret
            have e : r = false := by rw [Hr.out]; simp; omega
            exact ⟨by rw [e]; rfl, rfl⟩
        · go_wp2
          have hq := hnx.out (by omega)
          go_roundw
          case rel => exact ⟨i + 1, by omega, by go_num, hq, trivial⟩
          case measure => simp [intOf]; omega
      · go_wp2
        have hq := hnx.out (by omega)
        go_roundw
        case rel => exact ⟨i + 1, by omega, by go_num, hq, trivial⟩
        case measure => simp [intOf]; omega
    · have hi2 : i = n := by omega
      subst hi2
      have hq := hf.out
      rw [List.take_of_length_le (by omega)] at hq
      have Hq := hide hq
      clear hf hq
      go_wp2
      go_ret
      have e : r = false := by rw [Hr.out, Hq.out]; rfl
      exact ⟨by rw [e]; rfl, rfl⟩
end Go.Proofs.YtgmkagddfbfolaaDoor.Span
