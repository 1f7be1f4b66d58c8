/-
  Plain mathematics of ticks: a number held, numbers added up, and a number doubled. No condition. Of no program.
-/
import Derived.Test.YtlgdjnlilejoaaaCells
namespace Go.Proofs.Ytlgdjnlilejoaaa.Tick
set_option linter.unusedVariables false
def hold (n : Int) : Int := if n < 0 then 0 else if 1099511627776 < n then 1099511627776 else n
theorem hold_le (n : Int) : 0 ≤ hold n ∧ hold n ≤ 1099511627776 := by unfold hold; split <;> (try split) <;> omega
theorem hold_of (n : Int) (h0 : 0 ≤ n) (h1 : n ≤ 1099511627776) : hold n = n := by unfold hold; split <;> (try split) <;> omega
theorem hold_mono (a b : Int) (h : a ≤ b) : hold a ≤ hold b := by unfold hold; split <;> split <;> (try split) <;> (try split) <;> omega
def addUp (l : List Int) : Int := l.foldl (fun s x => hold (s + hold x)) 0
theorem addUp_le (l : List Int) : 0 ≤ addUp l ∧ addUp l ≤ 1099511627776 := by
  unfold addUp
  suffices H : ∀ s : Int, 0 ≤ s ∧ s ≤ 1099511627776 → 0 ≤ l.foldl (fun s x => hold (s + hold x)) s ∧ l.foldl (fun s x => hold (s + hold x)) s ≤ 1099511627776 from H 0 (by omega)
  induction l with
  | nil => intro s h; exact h
  | cons x r ih => intro s h; exact ih _ (hold_le _)
theorem addUp_snoc (l : List Int) (z : Int) : addUp (l ++ [z]) = hold (addUp l + hold z) := by simp [addUp]
theorem addUp_two (a b : Int) : addUp [a, b] = hold (hold a + hold b) := by
  have := hold_le a
  simp only [addUp, List.foldl_cons, List.foldl_nil, Int.zero_add]
  rw [hold_of (hold a) (by omega) (by omega)]
def left (now til : Int) : Int := if 0 < hold til - hold now then hold til - hold now else 0
def tw (n : Int) (k : Nat) : Int := hold (hold n * 2 ^ k)
theorem tw_le (n : Int) (k : Nat) : 0 ≤ tw n k ∧ tw n k ≤ 1099511627776 := hold_le _
theorem tw_zero (n : Int) : tw n 0 = hold n := by
  have := hold_le n
  rw [tw, Int.pow_zero, Int.mul_one, hold_of _ (by omega) (by omega)]
theorem pow_pos (k : Nat) : (0 : Int) < 2 ^ k := by
  induction k with
  | zero => simp
  | succ k ih => rw [Int.pow_succ]; omega
theorem hold_dbl (x : Int) (h : 0 ≤ x) : hold (hold x + hold x) = hold (x * 2) := by
  unfold hold; split <;> (try split) <;> (try split) <;> (try split) <;> (try split) <;> omega
theorem tw_succ (n : Int) (k : Nat) : tw n (k + 1) = hold (tw n k + tw n k) := by
  have h1 := hold_le n
  have h2 : 0 ≤ hold n * 2 ^ k := Int.mul_nonneg h1.1 (Int.le_of_lt (pow_pos k))
  unfold tw
  rw [hold_dbl _ h2, Int.pow_succ, Int.mul_assoc]
theorem tw_none (n : Int) (h : hold n = 0) (k : Nat) : tw n k = 0 := by
  rw [tw, h, Int.zero_mul]; rfl
theorem tw_full (n : Int) (k m : Nat) (h : tw n k = 1099511627776) (hm : k ≤ m) : tw n m = 1099511627776 := by
  induction hm with
  | refl => exact h
  | step _ ih => rw [tw_succ, ih]; rfl
theorem tw_zero_of (n : Int) (k : Nat) (h : tw n k = 0) : hold n = 0 := by
  have h1 := hold_le n
  rcases Int.lt_or_le 0 (hold n) with h0 | h0
  · exfalso
    have h2 : 1 * 1 ≤ hold n * 2 ^ k := Int.mul_le_mul (by omega) (by have := pow_pos k; omega) (by omega) h1.1
    have h3 := hold_mono _ _ h2
    unfold tw at h
    rw [h] at h3
    exact absurd h3 (by decide)
  · omega
/-- Forty-one doublings are enough. -/
theorem tw_often (n : Int) (k : Nat) (h : 0 < hold n) (hk : 41 ≤ k) : tw n k = 1099511627776 := by
  refine tw_full n 41 k ?_ hk
  have h1 : 1 * 2 ^ 41 ≤ hold n * 2 ^ 41 := Int.mul_le_mul (by omega) (by omega) (by decide) (by omega)
  have h3 := hold_mono _ _ h1
  have h4 := tw_le n 41
  rw [show hold (1 * 2 ^ 41) = 1099511627776 from by decide] at h3
  unfold tw at h4 ⊢
  omega
theorem tw_same (n : Int) (k m : Nat) (hk : 41 ≤ k) (hm : 41 ≤ m) : tw n k = tw n m := by
  have h1 := hold_le n
  rcases Int.lt_or_le 0 (hold n) with h0 | h0
  · rw [tw_often n k h0 hk, tw_often n m h0 hm]
  · have h0 : hold n = 0 := by omega
    rw [tw_none n h0, tw_none n h0]
theorem tw_mono (a b : Int) (k : Nat) (h : a ≤ b) : tw a k ≤ tw b k :=
  hold_mono _ _ (Int.mul_le_mul_of_nonneg_right (hold_mono _ _ h) (Int.le_of_lt (pow_pos k)))
theorem tw_mono_k (a : Int) (k m : Nat) (h : k ≤ m) : tw a k ≤ tw a m := by
  induction h with
  | refl => exact Int.le_refl _
  | step _ ih =>
    rename_i m _
    rw [tw_succ]
    have h1 := tw_le a m
    refine Int.le_trans ih ?_
    rw [show tw a m = hold (tw a m) from (hold_of _ h1.1 h1.2).symm]
    refine hold_mono _ _ ?_
    rw [hold_of _ h1.1 h1.2]
    omega
theorem left_le (a b : Int) : 0 ≤ left a b ∧ left a b ≤ 1099511627776 := by
  have := hold_le a
  have := hold_le b
  unfold left; split <;> omega
theorem left_mono (c a b : Int) (h : a ≤ b) : left c a ≤ left c b := by
  have := hold_mono _ _ h
  unfold left; split <;> split <;> omega
theorem add_mono (a b c : Int) (h : a ≤ b) : addUp [a, c] ≤ addUp [b, c] := by
  rw [addUp_two, addUp_two]
  have := hold_mono _ _ h
  exact hold_mono _ _ (by omega)
theorem add_left (a b : Int) (h : a ≤ b) : addUp [a, left a b] = hold b := by
  have h1 := hold_mono _ _ h
  have h2 := hold_le a
  have h3 := hold_le b
  have h4 := left_le a b
  rw [addUp_two, hold_of (left a b) h4.1 h4.2]
  unfold left
  split
  · rw [show hold a + (hold b - hold a) = hold b from by omega, hold_of _ h3.1 h3.2]
  · rw [show hold a + 0 = hold b from by omega, hold_of _ h3.1 h3.2]
end Go.Proofs.Ytlgdjnlilejoaaa.Tick
