/-
  The plain mathematics of layer 2: sums of bytes, the four bytes of a sum, what is sealed, what is opened. No condition. Of no program.
-/
import Derived.Test.YtbckpcofcgapdaaBase
namespace Go.Proofs.Ytbckpcofcgapdaa.Stamp
/-- One byte goes into a sum. -/
def step (s c : Nat) : Nat := (s ^^^ c) * 16777619 % 4294967296
/-- Bytes go into a sum. -/
def on (s : Nat) (l : List UInt8) : Nat := l.foldl (fun s b => step s b.toNat) s
def sum (l : List UInt8) : Nat := on 2166136261 l
/-- A sum's four bytes. -/
def four (n : Nat) : List UInt8 := [UInt8.ofNat (n / 16777216), UInt8.ofNat (n / 65536), UInt8.ofNat (n / 256), UInt8.ofNat n]
/-- The number of bytes, the highest first. -/
def num (l : List UInt8) : Nat := l.foldl (fun n b => n * 256 % 4294967296 + b.toNat) 0
def seal_ (l : List UInt8) : List UInt8 := l ++ four (sum l)
theorem step_lt (s c : Nat) : step s c < 4294967296 := by unfold step; omega
theorem on_append (s : Nat) (l m : List UInt8) : on s (l ++ m) = on (on s l) m := by unfold on; rw [List.foldl_append]
theorem on_one (s : Nat) (b : UInt8) : on s [b] = step s b.toNat := by unfold on; rw [List.foldl_cons, List.foldl_nil]
theorem on_snoc (s : Nat) (l : List UInt8) (b : UInt8) : on s (l ++ [b]) = step (on s l) b.toNat := by rw [on_append, on_one]
theorem on_lt (s : Nat) (l : List UInt8) (h : s < 4294967296) : on s l < 4294967296 := by
  induction l generalizing s with
  | nil => exact h
  | cons b l ih =>
    rw [show b :: l = [b] ++ l from rfl, on_append, on_one]
    exact ih _ (step_lt s _)
theorem sum_lt (l : List UInt8) : sum l < 4294967296 := on_lt _ _ (by omega)
theorem num_snoc (l : List UInt8) (b : UInt8) : num (l ++ [b]) = num l * 256 % 4294967296 + b.toNat := by simp [num]
theorem num_lt (l : List UInt8) : num l < 4294967296 := by
  unfold num
  suffices h : ∀ (m : List UInt8) (n : Nat), n < 4294967296 → m.foldl (fun n b => n * 256 % 4294967296 + b.toNat) n < 4294967296 from h l 0 (by omega)
  intro m
  induction m with
  | nil => intro n h; exact h
  | cons b m ih =>
    intro n h
    refine ih _ ?_
    have := b.toNat_lt
    simp only
    omega
theorem four_length (n : Nat) : (four n).length = 4 := rfl
theorem ofNat_toNat (n : Nat) : (UInt8.ofNat n).toNat = n % 256 := by simp
theorem num_four (n : Nat) (h : n < 4294967296) : num (four n) = n := by
  simp only [num, four, List.foldl_cons, List.foldl_nil, ofNat_toNat]
  omega
theorem four_num (l : List UInt8) (h : l.length = 4) : four (num l) = l := by
  obtain ⟨a, b, c, d, rfl⟩ : ∃ a b c d, l = [a, b, c, d] := by
    match l, h with
    | [a, b, c, d], _ => exact ⟨a, b, c, d, rfl⟩
  have ha := a.toNat_lt; have hb := b.toNat_lt; have hc := c.toNat_lt; have hd := d.toNat_lt
  have hn : num [a, b, c, d] = a.toNat * 16777216 + b.toNat * 65536 + c.toNat * 256 + d.toNat := by
    simp only [num, List.foldl_cons, List.foldl_nil]
    omega
  have e : ∀ (n : Nat) (x : UInt8), n % 256 = x.toNat → UInt8.ofNat n = x := by
    intro n x h
    apply UInt8.toNat_inj.1
    rw [ofNat_toNat, h]
  rw [hn]
  simp only [four]
  rw [e _ a (by omega), e _ b (by omega), e _ c (by omega), e _ d (by omega)]
/-- What is opened: the last four are the sum of those ahead. -/
def opens (l : List UInt8) : Prop := 4 ≤ l.length ∧ l.drop (l.length - 4) = four (sum (l.take (l.length - 4)))
theorem opens_iff (l : List UInt8) (h : 4 ≤ l.length) : opens l ↔ num (l.drop (l.length - 4)) = sum (l.take (l.length - 4)) := by
  have hd : (l.drop (l.length - 4)).length = 4 := by rw [List.length_drop]; omega
  constructor
  · rintro ⟨_, h2⟩
    rw [h2, num_four _ (sum_lt _)]
  · intro h2
    exact ⟨h, by rw [← h2, four_num _ hd]⟩
theorem opens_seal (l : List UInt8) (h : 4 ≤ l.length) : opens l ↔ seal_ (l.take (l.length - 4)) = l := by
  constructor
  · rintro ⟨_, h2⟩
    unfold seal_
    rw [← h2, List.take_append_drop]
  · intro h2
    refine ⟨h, ?_⟩
    unfold seal_ at h2
    generalize hp : l.take (l.length - 4) = p at h2
    have e : l.length - 4 = p.length := by rw [← hp, List.length_take]; omega
    rw [e, ← h2, List.drop_left]
theorem seal_opens (l : List UInt8) : opens (seal_ l) := by
  have hl : (seal_ l).length = l.length + 4 := by simp [seal_, four]
  unfold opens
  rw [hl, Nat.add_sub_cancel]
  refine ⟨by omega, ?_⟩
  simp [seal_]
theorem seal_length (l : List UInt8) : (seal_ l).length = l.length + 4 := by simp [seal_, four]
theorem seal_take (l : List UInt8) : (seal_ l).take l.length = l := by simp [seal_]
/-! Each step can be gone back. -/
theorem inv_mul (x : Nat) : x * 16777619 % 4294967296 * 899433627 % 4294967296 = x % 4294967296 := by omega
theorem step_inj_sum {s t c : Nat} (hs : s < 4294967296) (ht : t < 4294967296) (hc : c < 256) (h : step s c = step t c) : s = t := by
  have h1 : (s ^^^ c) % 4294967296 = (t ^^^ c) % 4294967296 := by
    rw [← inv_mul (s ^^^ c), ← inv_mul (t ^^^ c)]
    unfold step at h
    rw [h]
  have ls : s ^^^ c < 2 ^ 32 := Nat.xor_lt_two_pow (by omega) (by omega)
  have lt : t ^^^ c < 2 ^ 32 := Nat.xor_lt_two_pow (by omega) (by omega)
  have h2 : s ^^^ c = t ^^^ c := by omega
  calc s = (s ^^^ c) ^^^ c := by rw [Nat.xor_assoc, Nat.xor_self, Nat.xor_zero]
    _ = (t ^^^ c) ^^^ c := by rw [h2]
    _ = t := by rw [Nat.xor_assoc, Nat.xor_self, Nat.xor_zero]
theorem step_inj_byte {s c d : Nat} (hs : s < 4294967296) (hc : c < 256) (hd : d < 256) (h : step s c = step s d) : c = d := by
  have h1 : (s ^^^ c) % 4294967296 = (s ^^^ d) % 4294967296 := by
    rw [← inv_mul (s ^^^ c), ← inv_mul (s ^^^ d)]
    unfold step at h
    rw [h]
  have ls : s ^^^ c < 2 ^ 32 := Nat.xor_lt_two_pow (by omega) (by omega)
  have lt : s ^^^ d < 2 ^ 32 := Nat.xor_lt_two_pow (by omega) (by omega)
  have h2 : s ^^^ c = s ^^^ d := by omega
  calc c = s ^^^ (s ^^^ c) := by rw [← Nat.xor_assoc, Nat.xor_self, Nat.zero_xor]
    _ = s ^^^ (s ^^^ d) := by rw [h2]
    _ = d := by rw [← Nat.xor_assoc, Nat.xor_self, Nat.zero_xor]
theorem on_inj {s t : Nat} (l : List UInt8) (hs : s < 4294967296) (ht : t < 4294967296) (h : on s l = on t l) : s = t := by
  induction l generalizing s t with
  | nil => exact h
  | cons b l ih =>
    rw [show b :: l = [b] ++ l from rfl, on_append, on_append, on_one, on_one] at h
    exact step_inj_sum hs ht b.toNat_lt (ih (step_lt _ _) (step_lt _ _) h)
theorem sum_set (l : List UInt8) (i : Nat) (a b : UInt8) (h : l[i]? = some a) (hab : a ≠ b) : sum (l.set i b) ≠ sum l := by
  intro he
  have hi : i < l.length := (List.getElem?_eq_some_iff.1 h).1
  have e1 : l = l.take i ++ ([a] ++ l.drop (i + 1)) := by
    have : l[i] = a := (List.getElem?_eq_some_iff.1 h).2
    rw [← this]; simp
  have e2 : l.set i b = l.take i ++ ([b] ++ l.drop (i + 1)) := by
    rw [List.set_eq_take_append_cons_drop, if_pos hi]; simp
  rw [e2, congrArg sum e1] at he
  unfold sum at he
  rw [on_append, on_append _ (l.take i), on_append, on_append _ [a]] at he
  have hs := on_lt 2166136261 (l.take i) (by omega)
  generalize on 2166136261 (l.take i) = s at he hs
  have h2 := on_inj (l.drop (i + 1)) (on_lt s [b] hs) (on_lt s [a] hs) he
  rw [on_one, on_one] at h2
  have := step_inj_byte hs b.toNat_lt a.toNat_lt h2
  exact hab (UInt8.toNat_inj.1 this.symm)
/-- Sealed bytes of which one is another one are not opened. -/
theorem turned (l : List UInt8) (i : Nat) (a b : UInt8) (h : (seal_ l)[i]? = some a) (hab : a ≠ b) : ¬ opens ((seal_ l).set i b) := by
  rintro ⟨_, h2⟩
  have hl : ((seal_ l).set i b).length - 4 = l.length := by rw [List.length_set, seal_length]; omega
  rw [hl] at h2
  by_cases hi : i < l.length
  · have e : (seal_ l).set i b = l.set i b ++ four (sum l) := by
      unfold seal_; rw [List.set_append, if_pos hi]
    have ha : l[i]? = some a := by
      unfold seal_ at h; rwa [List.getElem?_append_left hi] at h
    rw [e, List.drop_left' (by simp), List.take_left' (by simp)] at h2
    have h3 := congrArg num h2
    rw [num_four _ (sum_lt _), num_four _ (sum_lt _)] at h3
    exact sum_set l i a b ha hab h3.symm
  · have e : (seal_ l).set i b = l ++ (four (sum l)).set (i - l.length) b := by
      unfold seal_; rw [List.set_append, if_neg hi]
    have ha : (four (sum l))[i - l.length]? = some a := by
      unfold seal_ at h; rwa [List.getElem?_append_right (by omega)] at h
    rw [e, List.drop_left' rfl, List.take_left' rfl] at h2
    have h3 := congrArg (fun m => m[i - l.length]?) h2
    have hlt : i - l.length < (four (sum l)).length := (List.getElem?_eq_some_iff.1 ha).1
    simp only [ha] at h3
    rw [List.getElem?_set_self hlt] at h3
    injection h3 with h3
    exact hab h3.symm
/-! The document's way. -/
/-- One byte goes into a sum, by the lowest eight bits. -/
theorem step_low (s c : Nat) (hc : c < 256) : s - s % 256 + ((s % 256) ^^^ c) = s ^^^ c := by
  have h1 : s = s / 256 * 256 + s % 256 := by omega
  have h2 : s ^^^ c = (s / 256) * 2 ^ 8 + ((s % 256) ^^^ c) := by
    have hx : (s % 256) ^^^ c < 2 ^ 8 := Nat.xor_lt_two_pow (by omega) (by omega)
    apply Nat.eq_of_testBit_eq
    intro j
    rw [Nat.testBit_xor, Nat.mul_comm, Nat.testBit_two_pow_mul_add _ hx, Nat.testBit_xor]
    by_cases hj : j < 8
    · rw [if_pos hj, show (256 : Nat) = 2 ^ 8 from rfl, Nat.testBit_mod_two_pow]
      simp [hj]
    · rw [if_neg hj]
      have hcj : c.testBit j = false := Nat.testBit_lt_two_pow (Nat.lt_of_lt_of_le (show c < 2 ^ 8 by omega) (Nat.pow_le_pow_right (by omega) (by omega)))
      rw [hcj, show (256 : Nat) = 2 ^ 8 from rfl, Nat.testBit_div_two_pow, show j - 8 + 8 = j from by omega]
      simp
  rw [h2]
  omega
/-- What the loop over eight bits has reckoned behind k rounds. -/
def low (a b k : Nat) : Nat := (a % 2 ^ k) ^^^ (b % 2 ^ k)
theorem mod_succ (a k : Nat) : a % 2 ^ (k + 1) = a % 2 ^ k + 2 ^ k * (a / 2 ^ k % 2) := Nat.mod_pow_succ
theorem low_lt (a b k : Nat) : low a b k < 2 ^ k := Nat.xor_lt_two_pow (Nat.mod_lt _ (Nat.two_pow_pos k)) (Nat.mod_lt _ (Nat.two_pow_pos k))
theorem low_succ (a b k : Nat) : low a b (k + 1) = low a b k + (if a / 2 ^ k % 2 ≠ b / 2 ^ k % 2 then 2 ^ k else 0) := by
  have h2 : low a b (k + 1) = 2 ^ k * (if a / 2 ^ k % 2 ≠ b / 2 ^ k % 2 then 1 else 0) + low a b k := by
    apply Nat.eq_of_testBit_eq
    intro j
    rw [Nat.testBit_two_pow_mul_add _ (low_lt a b k)]
    unfold low
    rw [Nat.testBit_xor, Nat.testBit_mod_two_pow, Nat.testBit_mod_two_pow]
    by_cases hj : j < k
    · rw [if_pos hj, Nat.testBit_xor, Nat.testBit_mod_two_pow, Nat.testBit_mod_two_pow]
      simp [hj, show j < k + 1 from by omega]
    · rw [if_neg hj]
      by_cases he : j = k
      · subst he
        have t : ∀ x : Nat, x.testBit j = decide (x / 2 ^ j % 2 = 1) := fun x => Nat.testBit_eq_decide_div_mod_eq
        rw [t a, t b]
        have ha : a / 2 ^ j % 2 = 0 ∨ a / 2 ^ j % 2 = 1 := by omega
        have hb : b / 2 ^ j % 2 = 0 ∨ b / 2 ^ j % 2 = 1 := by omega
        rcases ha with ha | ha <;> rcases hb with hb | hb <;> simp [ha, hb]
      · have h1 : ¬ j < k + 1 := by omega
        obtain ⟨d, hd⟩ : ∃ d, j - k = d + 1 := ⟨j - k - 1, by omega⟩
        rw [hd]
        split <;> simp [h1, Nat.testBit_succ]
  rw [h2]
  split <;> omega
theorem low_8 (a b : Nat) (ha : a < 256) (hb : b < 256) : low a b 8 = a ^^^ b := by
  unfold low
  rw [Nat.mod_eq_of_lt (by omega), Nat.mod_eq_of_lt (by omega)]
end Go.Proofs.Ytbckpcofcgapdaa.Stamp
