/-
  The contracts of the program's Hold, Add, Left, Twice, Passed, and of the document's own: they answer the plain mathematics' numbers, and leave memory as it was. Condition: Add's numbers are no more than 2^40.
-/
import Derived.Test.YtlgdjnlilejoaaaTickMath
import Derived.Test.YtlgdjnlilejoaaaChecked
namespace Go.Proofs.Ytlgdjnlilejoaaa.Tick
open Go.RowKit
set_option linter.unusedVariables false
theorem end_i {k : IntKind} {a b : Int} (h : a = b) : Ending.returned (Value.int k a) = Ending.returned (.int k b) := by rw [h]
theorem hold_any (n : Int) (w : World) :
   Calls Try.prog 6 #[.int .i64 n] w fun e w' => e = .returned (.int .i64 (hold n)) ∧ w = w' := by
  go_enter Try.func6, Try.ntmps6
  go_wp2
  all_goals (go_ret; exact ⟨end_i (by unfold hold; repeat' split <;> omega), rfl⟩)
theorem refHold_any (n : Int) (w : World) :
   Calls Try.prog 7 #[.int .i64 n] w fun e w' => e = .returned (.int .i64 (hold n)) ∧ w = w' := by
  go_enter Try.func7, Try.ntmps7
  go_wp2
  all_goals (go_ret; exact ⟨end_i (by unfold hold; repeat' split <;> omega), rfl⟩)
theorem left_any (a b : Int) (w : World) :
   Calls Try.prog 10 #[.int .i64 a, .int .i64 b] w fun e w' => e = .returned (.int .i64 (left a b)) ∧ w = w' := by
  have ha := hold_le a
  have hb := hold_le b
  go_enter Try.func10, Try.ntmps10
  go_wp2_with (first
    | (go_at_call 6
       refine (hold_any _ _).mono ?_
       rintro e w1 ⟨rfl, rfl⟩))
  all_goals (go_ret; exact ⟨end_i (by unfold left; repeat' split <;> omega), rfl⟩)
theorem refLeft_any (a b : Int) (w : World) :
   Calls Try.prog 11 #[.int .i64 a, .int .i64 b] w fun e w' => e = .returned (.int .i64 (left a b)) ∧ w = w' := by
  have ha := hold_le a
  have hb := hold_le b
  go_enter Try.func11, Try.ntmps11
  go_wp2_with (first
    | (go_at_call 7
       refine (refHold_any _ _).mono ?_
       rintro e w1 ⟨rfl, rfl⟩))
  all_goals (go_ret; exact ⟨end_i (by unfold left; repeat' split <;> omega), rfl⟩)
theorem passed_any (a b : Int) (w : World) :
   Calls Try.prog 14 #[.int .i64 a, .int .i64 b] w fun e w' => e = .returned (.bool (decide (hold b ≤ hold a))) ∧ w = w' := by
  have ha := hold_le a
  have hb := hold_le b
  go_enter Try.func14, Try.ntmps14
  go_wp2_with (first
    | (go_at_call 6
       refine (hold_any _ _).mono ?_
       rintro e w1 ⟨rfl, rfl⟩))
  go_ret
  exact ⟨rfl, rfl⟩
set_option maxHeartbeats 800000 in
set_option maxRecDepth 100000 in
theorem add_any (A : Option Addr) (n c : Nat) (l : List Int) (w : World) (B : Nat) (hn : n ≤ 1099511627776) (h : Reads w B 1 A n (ics l)) :
   Calls Try.prog 8 #[.slice A n c] w fun e w' => e = .returned (.int .i64 (addUp l)) ∧ w = w' := by
  have hln : l.length = n := by have := h.1; rw [ics_length] at this; omega
  have Hln := hide hln
  clear hln
  go_enter Try.func8, Try.ntmps8
  go_wp2
  go_loop [3, 8] (fun t u => ∃ i : Nat, i ≤ n ∧ u = .int .i64 (i : Int) ∧ t = .int .i64 (addUp (l.take i))) (fun _ u => n - (intOf u).toNat)
  case atStart => exact ⟨0, by omega, rfl, rfl⟩
  case round =>
    obtain ⟨i, hi, rfl, rfl⟩ := hrel
    by_cases hc : i < n
    · obtain ⟨ad, z, rfl, hbl, hz, hcell⟩ := ics_at h hc
      have Hst : Hid (addUp (l.take (i + 1)) = hold (addUp (l.take i) + hold z)) := hide (by rw [take_snoc' l i z hz, addUp_snoc])
      have h1 := addUp_le (l.take i)
      have h2 := hold_le z
      clear hz
      go_wp2_with (first
        | (go_at_call 6
           refine (hold_any _ _).mono ?_
           rintro e w1 ⟨rfl, rfl⟩))
      go_round
      case rel => exact ⟨i + 1, by omega, by go_num, by rw [Hst.out]⟩
      case measure => simp [intOf]; omega
    · go_wp2
      go_ret
      exact ⟨by rw [List.take_of_length_le (by rw [Hln.out]; omega)]; rfl, rfl⟩
set_option maxHeartbeats 800000 in
set_option maxRecDepth 100000 in
theorem refAdd_any (A : Option Addr) (n c : Nat) (l : List Int) (w : World) (B : Nat) (hn : n ≤ 1099511627776) (h : Reads w B 1 A n (ics l)) :
   Calls Try.prog 9 #[.slice A n c] w fun e w' => e = .returned (.int .i64 (addUp l)) ∧ w = w' := by
  have hln : l.length = n := by have := h.1; rw [ics_length] at this; omega
  have Hln := hide hln
  clear hln
  go_enter Try.func9, Try.ntmps9
  go_wp2
  go_loop [3, 4] (fun t u => ∃ i : Nat, i ≤ n ∧ u = .int .i64 (i : Int) ∧ t = .int .i64 (addUp (l.take i))) (fun _ u => n - (intOf u).toNat)
  case atStart => exact ⟨0, by omega, rfl, rfl⟩
  case round =>
    obtain ⟨i, hi, rfl, rfl⟩ := hrel
    by_cases hc : i < n
    · obtain ⟨ad, z, rfl, hbl, hz, hcell⟩ := ics_at h hc
      have Hst : Hid (addUp (l.take (i + 1)) = hold (addUp (l.take i) + hold z)) := hide (by rw [take_snoc' l i z hz, addUp_snoc])
      have h1 := addUp_le (l.take i)
      have h2 := hold_le z
      clear hz
      go_wp2_with (first
        | (go_at_call 7
           refine (refHold_any _ _).mono ?_
           rintro e w1 ⟨rfl, rfl⟩))
      go_round
      case rel => exact ⟨i + 1, by omega, by go_num, by rw [Hst.out]⟩
      case measure => simp [intOf]; omega
    · go_wp2
      go_ret
      exact ⟨by rw [List.take_of_length_le (by rw [Hln.out]; omega)]; rfl, rfl⟩
set_option maxHeartbeats 800000 in
set_option maxRecDepth 100000 in
theorem twice_any (n k : Int) (w : World) (hk1 : -9223372036854775808 ≤ k) (hk2 : k ≤ 9223372036854775807) :
   Calls Try.prog 12 #[.int .i64 n, .int .i64 k] w fun e w' => e = .returned (.int .i64 (tw n k.toNat)) ∧ w = w' := by
  have hn := hold_le n
  have Hz := hide (tw_zero n)
  go_enter Try.func12, Try.ntmps12
  go_wp2_with (first
    | (go_at_call 6
       refine (hold_any _ _).mono ?_
       rintro e w1 ⟨rfl, rfl⟩))
  go_loop [0, 1] (fun t u => ∃ j : Nat, (j : Int) ≤ k.toNat ∧ u = .int .i64 (k - (j : Int)) ∧ t = .int .i64 (tw n j)) (fun _ u => (intOf u).toNat)
  case atStart => exact ⟨0, by omega, by simp, by rw [Hz.out]⟩
  case round =>
    obtain ⟨j, hj, rfl, rfl⟩ := hrel
    have hv := tw_le n j
    have Hs := hide (tw_succ n j)
    have Hf := hide (tw_full n j k.toNat)
    have Hn := hide (fun h => tw_none n (tw_zero_of n j h) k.toNat)
    by_cases hc : 0 < k - (j : Int)
    · by_cases h0 : 0 < tw n j
      · by_cases hM : tw n j < 1099511627776
        · go_wp2_with (first
            | (go_at_call 6
               refine (hold_any _ _).mono ?_
               rintro e w1 ⟨rfl, rfl⟩))
          go_round
          case rel => exact ⟨j + 1, by omega, by go_num, by rw [Hs.out]⟩
          case measure => simp [intOf]; omega
        · go_wp2
          go_ret
          exact ⟨end_i (by rw [Hf.out (by omega) (by omega)]; omega), rfl⟩
      · go_wp2
        go_ret
        exact ⟨end_i (by rw [Hn.out (by omega)]; omega), rfl⟩
    · have Hj : Hid (j = k.toNat) := hide (by omega)
      go_wp2
      go_ret
      exact ⟨end_i (by rw [Hj.out]), rfl⟩
set_option maxHeartbeats 800000 in
set_option maxRecDepth 100000 in
theorem refTwice_any (n k : Int) (w : World) (hk1 : -9223372036854775808 ≤ k) (hk2 : k ≤ 9223372036854775807) :
   Calls Try.prog 13 #[.int .i64 n, .int .i64 k] w fun e w' => e = .returned (.int .i64 (tw n k.toNat)) ∧ w = w' := by
  have hn := hold_le n
  have Hz := hide (tw_zero n)
  go_enter Try.func13, Try.ntmps13
  go_wp2_with (first
    | (go_at_call 7
       refine (refHold_any _ _).mono ?_
       rintro e w1 ⟨rfl, rfl⟩))
  go_loop [0, 5] (fun t u => ∃ j : Nat, (j : Int) ≤ k.toNat ∧ j ≤ 60 ∧ u = .int .i64 (j : Int) ∧ t = .int .i64 (tw n j)) (fun _ u => 60 - (intOf u).toNat)
  case atStart => exact ⟨0, by omega, by omega, by simp, by rw [Hz.out]⟩
  case round =>
    obtain ⟨j, hj, hj60, rfl, rfl⟩ := hrel
    have hv := tw_le n j
    have Hs := hide (tw_succ n j)
    have Hm := hide (tw_same n j k.toNat)
    by_cases hc : (j : Int) < k
    · by_cases h60 : (j : Int) < 60
      · go_wp2_with (first
          | (go_at_call 7
             refine (refHold_any _ _).mono ?_
             rintro e w1 ⟨rfl, rfl⟩))
        go_round
        case rel => exact ⟨j + 1, by omega, by omega, by go_num, by rw [Hs.out, show (2 : Int) * tw n j = tw n j + tw n j from by omega]⟩
        case measure => simp [intOf]; omega
      · go_wp2
        go_ret
        exact ⟨end_i (by rw [Hm.out (by omega) (by omega)]), rfl⟩
    · have Hj : Hid (j = k.toNat) := hide (by omega)
      go_wp2
      go_ret
      exact ⟨end_i (by rw [Hj.out]), rfl⟩
end Go.Proofs.Ytlgdjnlilejoaaa.Tick
