/-
  The bytes of a number, as plain mathematics. No condition.
-/
namespace Go.Proofs.Ytbckpcofcgapdaa.Vlq
set_option linter.unusedVariables false
/-- The bytes ahead of the last one. -/
def hi (n : Nat) : List UInt8 := if h : n = 0 then [] else hi (n / 128) ++ [UInt8.ofNat (128 + n % 128)]
  termination_by n
  decreasing_by omega
/-- The bytes of a number. -/
def enc (n : Nat) : List UInt8 := hi (n / 128) ++ [UInt8.ofNat (n % 128)]
theorem hi_zero : hi 0 = [] := by unfold hi; simp
theorem hi_pos (n : Nat) (h : 0 < n) : hi n = hi (n / 128) ++ [UInt8.ofNat (128 + n % 128)] := by
  rw [hi]; simp [Nat.pos_iff_ne_zero.1 h]
/-- A number held from 0 to MaxNum. -/
def held (n : Int) : Nat := (min (max n 0) 1099511627776).toNat
theorem held_le (n : Int) : held n ≤ 1099511627776 := by unfold held; omega
theorem held_of (n : Int) (h0 : 0 ≤ n) (h1 : n ≤ 1099511627776) : (held n : Int) = n := by unfold held; omega
theorem div_step (x j : Nat) : x / 128 ^ (j + 1) = x / 128 ^ j / 128 := by rw [Nat.div_div_eq_div_mul, Nat.pow_succ]
theorem pow7 (j : Nat) : (2 : Nat) ^ (7 * j) = 128 ^ j := by rw [Nat.pow_mul]
theorem int_div (x j : Nat) : (x : Int) / 2 ^ (7 * j) = ((x / 128 ^ j : Nat) : Int) := by
  rw [← pow7]; simp
theorem int_div' (x j : Nat) : (x : Int) / 2 ^ (7 * j + 7) = ((x / 128 ^ (j + 1) : Nat) : Int) := by
  rw [show 7 * j + 7 = 7 * (j + 1) from by omega]; exact int_div x (j + 1)
theorem small_pow (x j : Nat) (hx : x ≤ 1099511627776) (h : 0 < x / 128 ^ j) : j ≤ 5 := by
  by_cases hj : 6 ≤ j
  · exfalso
    have h1 : (128 : Nat) ^ 6 ≤ 128 ^ j := Nat.pow_le_pow_right (by omega) hj
    have : x / 128 ^ j = 0 := Nat.div_eq_of_lt (by omega)
    omega
  · omega
theorem hi_step (x j : Nat) (h : 0 < x / 128 ^ j) : hi (x / 128 ^ (j + 1)) ++ [UInt8.ofNat (128 + x / 128 ^ j % 128)] = hi (x / 128 ^ j) := by
  rw [div_step, ← hi_pos _ h]
theorem hi_length (n k : Nat) (h : n < 128 ^ k) : (hi n).length ≤ k := by
  induction k generalizing n with
  | zero => have : n = 0 := by simpa using h
            subst this; simp [hi_zero]
  | succ k ih =>
    by_cases h0 : n = 0
    · subst h0; simp [hi_zero]
    · rw [hi_pos n (by omega)]
      have := ih (n / 128) (by rw [Nat.pow_succ] at h; omega)
      simp; omega
theorem enc_length (n : Nat) (h : n ≤ 1099511627776) : (enc n).length ≤ 6 := by
  have := hi_length (n / 128) 5 (by omega)
  unfold enc; simp; omega
theorem enc_pos (n : Nat) : 0 < (enc n).length := by unfold enc; simp
end Go.Proofs.Ytbckpcofcgapdaa.Vlq
