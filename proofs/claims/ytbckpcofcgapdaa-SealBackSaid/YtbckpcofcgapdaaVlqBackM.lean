/-
  What was put is read, as plain mathematics. No condition beyond the numbers' own bounds.
-/
import Derived.Test.YtbckpcofcgapdaaVlqAwake
namespace Go.Proofs.Ytbckpcofcgapdaa.Vlq
set_option linter.unusedVariables false
/-- The bytes of a number: all but the last one have 128 or more, the first one isn't 128. -/
theorem hi_big (n : Nat) : ∀ c ∈ hi n, 128 ≤ c.toNat := by
  induction n using Nat.strongRecOn with
  | _ n ih =>
    intro c hc
    rcases Nat.eq_zero_or_pos n with h0 | h0
    · subst h0; simp [hi_zero] at hc
    · rw [hi_pos n h0, List.mem_append] at hc
      rcases hc with hc | hc
      · exact ih _ (by omega) c hc
      · simp at hc
        subst hc
        simp; omega
theorem hi_first (n : Nat) (c : UInt8) (h : (hi n)[0]? = some c) : c.toNat ≠ 128 := by
  induction n using Nat.strongRecOn generalizing c with
  | _ n ih =>
    rcases Nat.eq_zero_or_pos n with h0 | h0
    · subst h0; simp [hi_zero] at h
    · rw [hi_pos n h0] at h
      by_cases hq : n / 128 = 0
      · rw [hq, hi_zero] at h
        simp at h
        subst h
        simp; omega
      · rw [List.getElem?_append_left (by rw [hi_pos _ (Nat.pos_of_ne_zero hq)]; simp)] at h
        exact ih _ (by omega) c h
theorem val_append (l m : List UInt8) : val (l ++ m) = val l * 128 ^ m.length + val m := by
  induction m generalizing l with
  | nil => simp [val]
  | cons c m ih =>
    rw [show l ++ c :: m = (l ++ [c]) ++ m from by simp, ih, val_snoc, show c :: m = [c] ++ m from rfl, ih [c]]
    have : val [c] = c.toNat % 128 := by simp [val]
    rw [this]
    simp only [List.length_append, List.length_singleton, Nat.pow_add, Nat.pow_one, Nat.add_mul]
    rw [Nat.mul_assoc]
    omega
theorem val_hi (n : Nat) : val (hi n) = n := by
  induction n using Nat.strongRecOn with
  | _ n ih =>
    rcases Nat.eq_zero_or_pos n with h0 | h0
    · subst h0; rw [hi_zero]; rfl
    · rw [hi_pos n h0, val_snoc, ih _ (by omega)]
      simp; omega
theorem val_enc (n : Nat) : val (enc n) = n := by
  unfold enc
  rw [val_snoc, val_hi]
  simp; omega
/-- A run of bytes of 128 or more, then one below. -/
theorem wd_run (l : List UInt8) (c : UInt8) (m : List UInt8) (i : Nat) (h : ∀ x ∈ l, 128 ≤ x.toNat) (hc : c.toNat < 128) (h6 : i + l.length ≤ 5) : wd (l ++ c :: m) i = (i + l.length + 1, 0) := by
  induction l generalizing i with
  | nil => simp [wd, hc]
  | cons a l ih =>
    have ha := h a (by simp)
    rw [List.cons_append, wd, if_neg (by omega), if_neg (by simp at h6; omega), ih (i + 1) (fun x hx => h x (by simp [hx])) (by simp at h6; omega)]
    simp; omega
theorem width_enc (n : Nat) (hn : n ≤ 1099511627776) (m : List UInt8) : width (enc n ++ m) = ((enc n).length, 0) := by
  have hlen := hi_length (n / 128) 5 (by omega)
  have hlast : (UInt8.ofNat (n % 128)).toNat < 128 := by simp; omega
  have hrun := wd_run (hi (n / 128)) (UInt8.ofNat (n % 128)) m 0 (hi_big _) hlast (by omega)
  have e : enc n ++ m = hi (n / 128) ++ UInt8.ofNat (n % 128) :: m := by simp [enc]
  rw [e]
  have hw : width (hi (n / 128) ++ UInt8.ofNat (n % 128) :: m) = wd (hi (n / 128) ++ UInt8.ofNat (n % 128) :: m) 0 := by
    by_cases hq : n / 128 = 0
    · rw [hq, hi_zero]
      simp only [List.nil_append, width]
      rw [if_neg (by omega)]
    · have hp : 0 < (hi (n / 128)).length := by rw [hi_pos _ (Nat.pos_of_ne_zero hq)]; simp
      refine width_cons _ ((hi (n / 128))[0]'hp) ?_ ?_
      · rw [List.getElem?_append_left hp]; simp [hp]
      · exact hi_first (n / 128) _ (by simp [hp])
  rw [hw, hrun]
  simp [enc]
theorem look_enc (n : Nat) (hn : n ≤ 1099511627776) (m : List UInt8) (most : Int) (hm : (n : Int) ≤ most) : look (enc n ++ m) most = (n, (enc n).length, 0) := by
  unfold look
  rw [width_enc n hn]
  simp only [List.take_left, val_enc]
  rw [if_neg (by simp), if_neg (by omega)]
theorem numR_enc (n : Nat) (hn : n ≤ 1099511627776) (p m : List UInt8) (most : Int) (hm : (n : Int) ≤ most) : numR (p ++ (enc n ++ m)) p.length 0 most = ((n : Int), p.length + (enc n).length, 0) := by
  unfold numR
  rw [if_neg (by simp), List.drop_left, look_enc n hn m most hm]
theorem strR_enc (s p m : List UInt8) (hn : s.length ≤ 1099511627776) (most : Int) (hm : (s.length : Int) ≤ most) :
    strR (p ++ (enc s.length ++ (s ++ m))) p.length 0 most = (s, p.length + ((enc s.length).length + s.length), 0) := by
  unfold strR
  rw [if_neg (by simp), List.drop_left, look_enc s.length hn (s ++ m) most hm]
  simp only
  rw [if_neg (by simp), if_neg (by simp)]
  have e : (p ++ (enc s.length ++ (s ++ m))).drop (p.length + (enc s.length).length) = s ++ m := by
    rw [← List.append_assoc, ← List.length_append, List.drop_left]
  rw [e, List.take_left]
end Go.Proofs.Ytbckpcofcgapdaa.Vlq
