/-
  Some texts of this claim, one behind the other: LabelText. What each proves, and its condition, stands at its head.
-/
import Derived.Lib.RuneCount
import Derived.Lib.DecodeN
import Derived.Lib.OthersKept
/-
  Plain mathematics of texts that are gone through rune by rune: the runes behind a place, how many bytes the first of them have, kinds of runes, names that may be. No program.
-/
namespace Go.Proofs.Ytllogmokadcfmaa.Label
open Go.Lib
set_option linter.unusedVariables false
def byt (s : ByteArray) (i : Nat) : Nat := (s.get! i).toNat
theorem byt_lt (s : ByteArray) (i : Nat) : byt s i < 256 := (s.get! i).toNat_lt
theorem dec_eq (s : ByteArray) (i : Nat) : Utf8.decode s i = decodeN (s.size - i) (byt s i) (byt s (i + 1)) (byt s (i + 2)) (byt s (i + 3)) := decode_at s i
def wd (s : ByteArray) (i : Nat) : Nat := (Utf8.decode s i).2
def rn (s : ByteArray) (i : Nat) : Nat := (Utf8.decode s i).1
theorem wd_pos (s : ByteArray) (i : Nat) (h : i < s.size) : 1 ≤ wd s i := decode_width_pos s i h
theorem decN_le (n b0 b1 b2 b3 : Nat) (hn : 1 ≤ n) : (decodeN n b0 b1 b2 b3).2 ≤ n ∧ (decodeN n b0 b1 b2 b3).2 ≤ 4 := by
  unfold decodeN
  repeat' split
  all_goals (constructor <;> simp only <;> omega)
theorem wd_le (s : ByteArray) (i : Nat) (h : i < s.size) : i + wd s i ≤ s.size := by
  have := (decN_le (s.size - i) (byt s i) (byt s (i + 1)) (byt s (i + 2)) (byt s (i + 3)) (by omega)).1
  unfold wd; rw [dec_eq]; omega
theorem decN_rune (n b0 b1 b2 b3 : Nat) (h0 : b0 < 256) : (decodeN n b0 b1 b2 b3).1 ≤ 1114111 := by
  unfold decodeN
  repeat' split
  all_goals (simp only; omega)
theorem rn_le (s : ByteArray) (i : Nat) : rn s i ≤ 1114111 := by
  unfold rn; rw [dec_eq]; exact decN_rune _ _ _ _ _ (byt_lt s i)
def runes (s : ByteArray) (pos : Nat) : List Nat := if h : pos < s.size then rn s pos :: runes s (pos + wd s pos) else []
  termination_by s.size - pos
  decreasing_by have := wd_pos s pos h; omega
theorem runes_step (s : ByteArray) (pos : Nat) (h : pos < s.size) : runes s pos = rn s pos :: runes s (pos + wd s pos) := by
  rw [runes, dif_pos h]
theorem runes_end (s : ByteArray) (pos : Nat) (h : ¬ pos < s.size) : runes s pos = [] := by
  rw [runes, dif_neg h]
def skip (s : ByteArray) : Nat → Nat → Nat
  | 0, pos => pos
  | n + 1, pos => if pos < s.size then skip s n (pos + wd s pos) else pos
def kindN (x : Nat) : Nat := if 97 ≤ x ∧ x ≤ 122 then 0 else if 945 ≤ x ∧ x ≤ 969 then 1 else if 48 ≤ x ∧ x ≤ 57 then 2 else if x = 45 then 3 else 4
theorem kindN_le (x : Nat) : kindN x ≤ 4 := by unfold kindN; repeat' split
                                               all_goals omega
def okN (i x : Nat) : Bool := !(kindN x == 4 || i == 0 && !(kindN x ≤ 1))
def allOk : Nat → List Nat → Bool
  | _, [] => true
  | i, x :: l => okN i x && allOk (i + 1) l
def fitL (l : List Nat) : Bool := allOk 0 l && (decide (1 ≤ l.length) && decide (l.length ≤ 12))
end Go.Proofs.Ytllogmokadcfmaa.Label
