/-
  Contracts of Count, the program's and the document's: of a set. Condition: the slice reads as a set's spans.
-/
import Derived.Test.YtbkbamidkofajaaSpanCells
namespace Go.Proofs.Ytbkbamidkofajaa.Span
open Go.RowKit Go.Lib
set_option linter.unusedVariables false
/-- Count: of a set. -/
theorem take_snoc (l : List S) (k : Nat) (a : S) (h : l[k]? = some a) : l.take (k + 1) = l.take k ++ [a] := by
  rw [List.take_add_one, h]; rfl
theorem count_take {l : List S} (hs : isSet (-1) l = true) (k : Nat) : 0 ≤ count (l.take k) ∧ count (l.take k) ≤ 1000000001 := by
  have h : isSet (-1) (l.take k ++ l.drop k) = true := by rw [List.take_append_drop]; exact hs
  rw [isSet_append, Bool.and_eq_true] at h
  have h1 := count_range h.1
  have h2 := end_le h.1 (by omega)
  omega
set_option maxHeartbeats 1000000 in
theorem count_any {B n c : Nat} {A : Option Addr} {l : List S} (w : World) (h : SpIn w B A n l) (hB : B ≤ w.heap.size) (hn : n ≤ 1000000001) (hs : isSet (-1) l = true) :
    Calls Try.prog 30 #[.slice A n c] w fun e w' => e = .returned (.int .i64 (count l)) ∧ Below w.heap.size w w' := by
  have hl : l.length = n := h.1
  have hct := hide (@count_take l hs)
  have hmr := hide (mem_range hs)
  clear hs
  go_enter Try.func30, Try.ntmps30
  go_wp2
  go_loopw [3, 8] (fun u v wr => ∃ (i : Nat), i ≤ n ∧ u = .int .i64 (count (l.take i)) ∧ v = .int .i64 (i : Int) ∧ Below w.heap.size w wr) (fun _ v _ => n - (intOf v).toNat)
  case atStart => exact ⟨0, by omega, rfl, rfl, Below.refl _ _⟩
  case round =>
    obtain ⟨i, hi, rfl, rfl, hb⟩ := hrel
    by_cases hlt : i < n
    · obtain ⟨ad, s, rfl, hbl, hx, c1, c2⟩ := (h.below (hb.mono hB)).at_ hlt
      have hsnoc := take_snoc l i s hx
      have hr := hmr.out s (List.mem_of_getElem? hx)
      have h1 := hct.out i
      have h2 := hct.out (i + 1)
      rw [hsnoc, count_append] at h2
      have e : count (l.take i) + (s.2 - s.1) = count (l.take (i + 1)) := by rw [hsnoc, count_append]; simp [count]
      have e1 : count [s] = s.2 - s.1 := by simp [count]
      rw [e1] at h2
      generalize hK : count (l.take i) = K at *
      obtain ⟨x, y⟩ := s
      simp only [] at *
      have He := hide e
      clear e hK hsnoc hmr hct e1
      go_wp2
      clear hr h2 h1 hx
      go_roundw
      case rel => exact ⟨i + 1, by omega, ret_i He.out, by go_num, hb.alloc hb.size _⟩
      case measure => simp [intOf]; omega
    · have hi2 : i = n := by omega
      subst hi2
      have e : count (l.take i) = count l := by rw [List.take_of_length_le (by omega)]
      generalize count (l.take i) = K at *
      subst e
      clear hct hmr
      go_wp2
      go_ret
      exact ⟨rfl, hb⟩
set_option maxHeartbeats 1000000 in
theorem refCount_any {B n c : Nat} {A : Option Addr} {l : List S} (w : World) (h : SpIn w B A n l) (hB : B ≤ w.heap.size) (hn : n ≤ 1000000001) (hs : isSet (-1) l = true) :
    Calls Try.prog 31 #[.slice A n c] w fun e w' => e = .returned (.int .i64 (count l)) ∧ Below w.heap.size w w' := by
  have hl : l.length = n := h.1
  have hct := hide (@count_take l hs)
  have hmr := hide (mem_range hs)
  clear hs
  go_enter Try.func31, Try.ntmps31
  go_wp2
  go_loopw [3, 4] (fun u v wr => ∃ (i : Nat), i ≤ n ∧ u = .int .i64 (count (l.take i)) ∧ v = .int .i64 (i : Int) ∧ Below w.heap.size w wr) (fun _ v _ => n - (intOf v).toNat)
  case atStart => exact ⟨0, by omega, rfl, rfl, Below.refl _ _⟩
  case round =>
    obtain ⟨i, hi, rfl, rfl, hb⟩ := hrel
    by_cases hlt : i < n
    · obtain ⟨ad, s, rfl, hbl, hx, c1, c2⟩ := (h.below (hb.mono hB)).at_ hlt
      have hsnoc := take_snoc l i s hx
      have hr := hmr.out s (List.mem_of_getElem? hx)
      have h1 := hct.out i
      have h2 := hct.out (i + 1)
      rw [hsnoc, count_append] at h2
      have e : count (l.take i) + s.2 - s.1 = count (l.take (i + 1)) := by rw [hsnoc, count_append]; simp [count]; omega
      have e1 : count [s] = s.2 - s.1 := by simp [count]
      rw [e1] at h2
      generalize hK : count (l.take i) = K at *
      obtain ⟨x, y⟩ := s
      simp only [] at *
      have He := hide e
      clear e hK hsnoc hmr hct e1
      go_upto_region 5 with fail
      go_quiet (fail)
      go_wp2_with fail
      clear hr h2 h1 hx
      go_roundw
      case rel => exact ⟨i + 1, by omega, ret_i He.out, by go_num, below_drewN hb _⟩
      case measure => simp [intOf]; omega
    · have hi2 : i = n := by omega
      subst hi2
      have e : count (l.take i) = count l := by rw [List.take_of_length_le (by omega)]
      generalize count (l.take i) = K at *
      subst e
      clear hct hmr
      go_wp2
      go_ret
      exact ⟨rfl, hb⟩
end Go.Proofs.Ytbkbamidkofajaa.Span
