/-
  Some texts of this claim, one behind the other: LabelText, LabelDec. What each proves, and its condition, stands at its head.
-/
import Derived.Lib.RuneCount
import Derived.Lib.DecodeN
import Derived.Lib.OthersKept
/-
  Plain mathematics of texts that are gone through rune by rune: the runes behind a place, how many bytes the first of them have, kinds of runes, names that may be. No program.
-/
namespace Go.Proofs.YtllogmokadcfmaaGreat.Label
open Go.Lib
set_option linter.unusedVariables false
def byt (s : ByteArray) (i : Nat) : Nat := (s.get! i).toNat
theorem byt_lt (s : ByteArray) (i : Nat) : byt s i < 256 := (s.get! i).toNat_lt
theorem byt_at (s : ByteArray) (i : Nat) (h : i < s.size) : (s[i]'h).toNat = byt s i := by
  unfold byt
  rw [← get_at s i h]; rfl
theorem dec_eq (s : ByteArray) (i : Nat) : Utf8.decode s i = decodeN (s.size - i) (byt s i) (byt s (i + 1)) (byt s (i + 2)) (byt s (i + 3)) := decode_at s i
def wd (s : ByteArray) (i : Nat) : Nat := (Utf8.decode s i).2
def rn (s : ByteArray) (i : Nat) : Nat := (Utf8.decode s i).1
theorem wd_pos (s : ByteArray) (i : Nat) (h : i < s.size) : 1 ≤ wd s i := decode_width_pos s i h
theorem decN_le (n b0 b1 b2 b3 : Nat) (hn : 1 ≤ n) : (decodeN n b0 b1 b2 b3).2 ≤ n ∧ (decodeN n b0 b1 b2 b3).2 ≤ 4 := by
  unfold decodeN
  repeat' split
  all_goals (constructor <;> simp only <;> omega)
theorem wd_le (s : ByteArray) (i : Nat) (h : i < s.size) : i + wd s i ≤ s.size := by
  have := (decN_le (s.size - i) (byt s i) (byt s (i + 1)) (byt s (i + 2)) (byt s (i + 3)) (by omega)).1
  unfold wd; rw [dec_eq]; omega
theorem wd_le4 (s : ByteArray) (i : Nat) (h : i < s.size) : wd s i ≤ 4 := by
  have := (decN_le (s.size - i) (byt s i) (byt s (i + 1)) (byt s (i + 2)) (byt s (i + 3)) (by omega)).2
  unfold wd; rw [dec_eq]; omega
theorem decN_rune (n b0 b1 b2 b3 : Nat) (h0 : b0 < 256) : (decodeN n b0 b1 b2 b3).1 ≤ 1114111 := by
  unfold decodeN
  repeat' split
  all_goals (simp only; omega)
theorem rn_le (s : ByteArray) (i : Nat) : rn s i ≤ 1114111 := by
  unfold rn; rw [dec_eq]; exact decN_rune _ _ _ _ _ (byt_lt s i)
def runes (s : ByteArray) (pos : Nat) : List Nat := if h : pos < s.size then rn s pos :: runes s (pos + wd s pos) else []
  termination_by s.size - pos
  decreasing_by have := wd_pos s pos h; omega
theorem runes_step (s : ByteArray) (pos : Nat) (h : pos < s.size) : runes s pos = rn s pos :: runes s (pos + wd s pos) := by
  rw [runes, dif_pos h]
theorem runes_end (s : ByteArray) (pos : Nat) (h : ¬ pos < s.size) : runes s pos = [] := by
  rw [runes, dif_neg h]
theorem runes_len (s : ByteArray) (pos : Nat) (h : pos ≤ s.size) : (runes s pos).length ≤ s.size - pos ∧ s.size - pos ≤ 4 * (runes s pos).length := by
  induction hk : s.size - pos using Nat.strongRecOn generalizing pos with
  | _ k ih =>
    by_cases hp : pos < s.size
    · have a := wd_pos s pos hp
      have b := wd_le s pos hp
      have c := wd_le4 s pos hp
      have := ih (s.size - (pos + wd s pos)) (by omega) (pos + wd s pos) (by omega) rfl
      rw [runes_step s pos hp, List.length_cons]
      omega
    · rw [runes_end s pos hp]; simp; omega
theorem runes_mem (s : ByteArray) (pos : Nat) : ∀ x ∈ runes s pos, x ≤ 1114111 := by
  induction hk : s.size - pos using Nat.strongRecOn generalizing pos with
  | _ k ih =>
    by_cases hp : pos < s.size
    · have a := wd_pos s pos hp
      rw [runes_step s pos hp]
      intro x hx
      rcases List.mem_cons.1 hx with rfl | hx
      · exact rn_le s pos
      · exact ih (s.size - (pos + wd s pos)) (by omega) (pos + wd s pos) rfl x hx
    · rw [runes_end s pos hp]; intro x hx; cases hx
def skip (s : ByteArray) : Nat → Nat → Nat
  | 0, pos => pos
  | n + 1, pos => if pos < s.size then skip s n (pos + wd s pos) else pos
def kindN (x : Nat) : Nat := if 97 ≤ x ∧ x ≤ 122 then 0 else if 945 ≤ x ∧ x ≤ 969 then 1 else if 48 ≤ x ∧ x ≤ 57 then 2 else if x = 45 then 3 else 4
theorem kindN_le (x : Nat) : kindN x ≤ 4 := by unfold kindN; repeat' split
                                               all_goals omega
def okN (i x : Nat) : Bool := !(kindN x == 4 || i == 0 && !(kindN x ≤ 1))
def allOk : Nat → List Nat → Bool
  | _, [] => true
  | i, x :: l => okN i x && allOk (i + 1) l
def fitL (l : List Nat) : Bool := allOk 0 l && (decide (1 ≤ l.length) && decide (l.length ≤ 12))
theorem allOk_at : ∀ (l : List Nat) (i k : Nat) (x : Nat), allOk i l = true → l[k]? = some x → okN (i + k) x = true
  | [], _, _, _, _, h => by simp at h
  | y :: l, i, 0, x, h, hx => by simp at hx; subst hx; simp [allOk] at h; exact h.1
  | y :: l, i, k + 1, x, h, hx => by
    simp at hx; simp [allOk] at h
    have := allOk_at l (i + 1) k x h.2 hx
    rw [show i + (k + 1) = i + 1 + k by omega]; exact this
theorem allOk_drop : ∀ (l : List Nat) (i k x : Nat), l[k]? = some x → allOk (i + k) (l.drop k) = (okN (i + k) x && allOk (i + k + 1) (l.drop (k + 1)))
  | [], _, _, _, h => by simp at h
  | y :: l, i, 0, x, hx => by simp at hx; subst hx; simp [allOk]
  | y :: l, i, k + 1, x, hx => by
    simp at hx
    have := allOk_drop l (i + 1) k x hx
    rw [show i + (k + 1) = i + 1 + k by omega, List.drop_succ_cons, List.drop_succ_cons]; exact this
theorem fit_small (s : ByteArray) (h : fitL (runes s 0) = true) : s.size ≤ 48 := by
  have := runes_len s 0 (by omega)
  simp [fitL] at h
  omega
end Go.Proofs.YtllogmokadcfmaaGreat.Label
/-
  Plain mathematics: the document's own reading of a rune out of up to four bytes is that of a range over the text. No program.
-/
namespace Go.Proofs.YtllogmokadcfmaaGreat.Label
open Go.Lib
set_option linter.unusedVariables false
set_option linter.unusedSimpArgs false
def wideN (n b0 b1 b2 b3 : Nat) : Nat :=
  if b0 < 194 ∨ 244 < b0 then 0
  else if n < (if b0 < 224 then 2 else if b0 < 240 then 3 else 4) then 0
  else if b1 < 128 ∨ 191 < b1 then 0
  else if 224 ≤ b0 ∧ (b2 < 128 ∨ 191 < b2) then 0
  else if 240 ≤ b0 ∧ (b3 < 128 ∨ 191 < b3) then 0
  else if (b0 = 224 ∧ b1 < 160) ∨ (b0 = 237 ∧ 159 < b1) ∨ (b0 = 240 ∧ b1 < 144) ∨ (b0 = 244 ∧ 143 < b1) then 0
  else if b0 < 224 then 2 else if b0 < 240 then 3 else 4
set_option maxHeartbeats 4000000 in
theorem wide_dec (n b0 b1 b2 b3 : Nat) (hn : 1 ≤ n) (h0 : b0 < 256) (h1 : b1 < 256) (h2 : b2 < 256) (h3 : b3 < 256) (hb : 128 ≤ b0) :
    decodeN n b0 b1 b2 b3 = (if wideN n b0 b1 b2 b3 = 0 then (65533, 1)
      else if b0 < 224 then (b0 % 32 * 64 + b1 % 64, 2)
      else if b0 < 240 then ((b0 % 16 * 64 + b1 % 64) * 64 + b2 % 64, 3)
      else (((b0 % 8 * 64 + b1 % 64) * 64 + b2 % 64) * 64 + b3 % 64, 4)) := by
  by_cases c2 : b0 < 224
  · have e1 : ¬ b0 < 128 := by omega
    have e2 : ¬ (b0 / 16 = 14) := by omega
    have e3 : ¬ (b0 / 8 = 30) := by omega
    have e4 : ¬ (224 ≤ b0) := by omega
    have e5 : ¬ (240 ≤ b0) := by omega
    have e6 : ¬ (b0 = 224) := by omega
    have e7 : ¬ (b0 = 237) := by omega
    have e8 : ¬ (b0 = 240) := by omega
    have e9 : ¬ (b0 = 244) := by omega
    simp only [decodeN, wideN, e1, e2, e3, e4, e5, e6, e7, e8, e9, c2, if_true, if_false, false_and, and_false, or_false, false_or]
    repeat' split
    all_goals first | (exfalso; omega) | rfl | (apply Prod.ext <;> simp only <;> omega)
  · by_cases c3 : b0 < 240
    · unfold decodeN wideN
      rw [if_neg (by omega), if_neg (by omega)]
      repeat' split
      all_goals first | (exfalso; omega) | rfl | (apply Prod.ext <;> simp only <;> omega)
    · unfold decodeN wideN
      rw [if_neg (by omega), if_neg (by omega), if_neg (by omega)]
      repeat' split
      all_goals first | (exfalso; omega) | rfl | (apply Prod.ext <;> simp only <;> omega)
end Go.Proofs.YtllogmokadcfmaaGreat.Label
