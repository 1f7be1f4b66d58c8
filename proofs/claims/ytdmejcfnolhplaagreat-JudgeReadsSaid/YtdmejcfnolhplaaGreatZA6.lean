/-
  Some texts of this claim, one behind the other: Words, VlqMath, VlqMath2, VlqPutNum. What each proves, and its condition, stands at its head.
-/
import Derived.Test.YtdmejcfnolhplaaGreatZA1
import Derived.Test.YtdmejcfnolhplaaGreatChecked
import Derived.Lib.SlBytesConst
/-
  Words for slices of bytes: a new slice of bytes, string() of it, what stays as memory grows. No condition.
-/
namespace Go.Proofs.YtdmejcfnolhplaaGreat
open Go.RowKit
set_option linter.unusedVariables false
theorem info_u8 : (Tryz.prog.info? 5).map (fun i => (i.zero, i.size, i.bytes)) = some (some (.int .u8 0), 1, 1) := by kernel_rfl
theorem info_u8' : (Tryz.prog.info? 5).map (·.size) = some 1 := by kernel_rfl
theorem conv_of {w : World} {B n c : Nat} {A : Option Addr} {l : List UInt8} (h : Reads w B 1 A n (bcs l)) : (convert 55 9 (.slice A n c)).run Tryz.prog w = .ok (.string (str l)) w :=
  run_str w _ _ _ c Tryz.underlying55 Tryz.underlying5 Tryz.underlying9 h
end Go.Proofs.YtdmejcfnolhplaaGreat
/-
  The bytes of a number, as plain mathematics. No condition.
-/
namespace Go.Proofs.YtdmejcfnolhplaaGreat.Vlq
set_option linter.unusedVariables false
def hi (n : Nat) : List UInt8 := if h : n = 0 then [] else hi (n / 128) ++ [UInt8.ofNat (128 + n % 128)]
  termination_by n
  decreasing_by omega
def enc (n : Nat) : List UInt8 := hi (n / 128) ++ [UInt8.ofNat (n % 128)]
theorem hi_zero : hi 0 = [] := by unfold hi; simp
theorem hi_pos (n : Nat) (h : 0 < n) : hi n = hi (n / 128) ++ [UInt8.ofNat (128 + n % 128)] := by
  rw [hi]; simp [Nat.pos_iff_ne_zero.1 h]
def held (n : Int) : Nat := (min (max n 0) 1099511627776).toNat
theorem held_le (n : Int) : held n ≤ 1099511627776 := by unfold held; omega
theorem held_of (n : Int) (h0 : 0 ≤ n) (h1 : n ≤ 1099511627776) : (held n : Int) = n := by unfold held; omega
theorem hi_length (n k : Nat) (h : n < 128 ^ k) : (hi n).length ≤ k := by
  induction k generalizing n with
  | zero => have : n = 0 := by simpa using h
            subst this; simp [hi_zero]
  | succ k ih =>
    by_cases h0 : n = 0
    · subst h0; simp [hi_zero]
    · rw [hi_pos n (by omega)]
      have := ih (n / 128) (by rw [Nat.pow_succ] at h; omega)
      simp; omega
theorem enc_pos (n : Nat) : 0 < (enc n).length := by unfold enc; simp
end Go.Proofs.YtdmejcfnolhplaaGreat.Vlq
/-
  The number that bytes begin with, as plain mathematics. No condition.
-/
namespace Go.Proofs.YtdmejcfnolhplaaGreat.Vlq
set_option linter.unusedVariables false
def wd : List UInt8 → Nat → Nat × Int
  | [], _ => (0, 2)
  | c :: r, i => if c.toNat < 128 then (i + 1, 0) else if i + 1 = 6 then (0, 4) else wd r (i + 1)
def width (l : List UInt8) : Nat × Int :=
  match l with
  | [] => (0, 2)
  | c :: r => if c.toNat = 128 then (0, 3) else wd (c :: r) 0
def val (l : List UInt8) : Nat := l.foldl (fun n c => n * 128 + c.toNat % 128) 0
def look (l : List UInt8) (most : Int) : Nat × Nat × Int :=
  if (width l).2 ≠ 0 then (0, 0, (width l).2)
  else if 1099511627776 < val (l.take (width l).1) ∨ most < (val (l.take (width l).1) : Int) then (0, 0, 4)
  else (val (l.take (width l).1), (width l).1, 0)
theorem val_snoc (l : List UInt8) (c : UInt8) : val (l ++ [c]) = val l * 128 + c.toNat % 128 := by simp [val]
theorem val_lt' (l : List UInt8) (n : Nat) : l.foldl (fun n c => n * 128 + c.toNat % 128) n < (n + 1) * 128 ^ l.length := by
  induction l generalizing n with
  | nil => simp
  | cons c l ih =>
    have h := ih (n * 128 + c.toNat % 128)
    simp only [List.foldl_cons, List.length_cons]
    have h2 : (n * 128 + c.toNat % 128 + 1) * 128 ^ l.length ≤ ((n + 1) * 128) * 128 ^ l.length := Nat.mul_le_mul_right _ (by omega)
    rw [Nat.pow_succ, Nat.mul_comm (128 ^ l.length) 128, ← Nat.mul_assoc]
    omega
theorem val_lt (l : List UInt8) : val l < 128 ^ l.length := by have h := val_lt' l 0; unfold val; omega
theorem val_take (l : List UInt8) (i : Nat) (c : UInt8) (h : l[i]? = some c) : val (l.take (i + 1)) = val (l.take i) * 128 + c.toNat % 128 := by
  rw [List.take_add_one, h]; exact val_snoc _ _
theorem val_take_lt (l : List UInt8) (i k : Nat) (h : i ≤ k) : val (l.take i) < 128 ^ k := by
  have h1 := val_lt (l.take i)
  have h2 : (128 : Nat) ^ (l.take i).length ≤ 128 ^ k := Nat.pow_le_pow_right (by omega) (Nat.le_trans (List.length_take_le _ _) h)
  omega
theorem wd_drop (l : List UInt8) (i : Nat) (c : UInt8) (h : l[i]? = some c) (hc : ¬ c.toNat < 128) (h6 : i + 1 ≠ 6) : wd (l.drop i) i = wd (l.drop (i + 1)) (i + 1) := by
  have hl : i < l.length := (List.getElem?_eq_some_iff.1 h).1
  have e : l[i] = c := (List.getElem?_eq_some_iff.1 h).2
  rw [List.drop_eq_getElem_cons hl, e, wd, if_neg hc, if_neg h6]
theorem wd_long (l : List UInt8) (i : Nat) (c : UInt8) (h : l[i]? = some c) (hc : ¬ c.toNat < 128) (h6 : i + 1 = 6) : wd (l.drop i) i = (0, 4) := by
  have hl : i < l.length := (List.getElem?_eq_some_iff.1 h).1
  have e : l[i] = c := (List.getElem?_eq_some_iff.1 h).2
  rw [List.drop_eq_getElem_cons hl, e, wd, if_neg hc, if_pos h6]
theorem wd_stop (l : List UInt8) (i : Nat) (c : UInt8) (h : l[i]? = some c) (hc : c.toNat < 128) : wd (l.drop i) i = (i + 1, 0) := by
  have hl : i < l.length := (List.getElem?_eq_some_iff.1 h).1
  have e : l[i] = c := (List.getElem?_eq_some_iff.1 h).2
  rw [List.drop_eq_getElem_cons hl, e, wd, if_pos hc]
theorem wd_end (l : List UInt8) (i : Nat) (h : l.length ≤ i) : wd (l.drop i) i = (0, 2) := by rw [List.drop_of_length_le h]; rfl
theorem wd_le (l : List UInt8) (i : Nat) (hi : i ≤ 5) : (wd l i).1 ≤ i + l.length ∧ (wd l i).1 ≤ 6 ∧ ((wd l i).2 = 0 ∨ (wd l i).2 = 2 ∨ (wd l i).2 = 4) := by
  induction l generalizing i with
  | nil => simp [wd]
  | cons c r ih =>
    unfold wd
    split
    · simp; omega
    · split
      · simp
      · have := ih (i + 1) (by omega)
        simp; omega
theorem width_le (l : List UInt8) : (width l).1 ≤ l.length ∧ (width l).1 ≤ 6 ∧ ((width l).2 = 0 ∨ (width l).2 = 2 ∨ (width l).2 = 3 ∨ (width l).2 = 4) := by
  unfold width
  split
  · simp
  · split
    · simp
    · rename_i c r _
      have := wd_le (c :: r) 0 (by omega)
      omega
theorem width_cons (l : List UInt8) (c : UInt8) (h : l[0]? = some c) (h2 : c.toNat ≠ 128) : width l = wd l 0 := by
  cases l with
  | nil => simp at h
  | cons a r => simp at h; subst h; simp [width, h2]
theorem width_128 (l : List UInt8) (c : UInt8) (h : l[0]? = some c) (h2 : c.toNat = 128) : width l = (0, 3) := by
  cases l with
  | nil => simp at h
  | cons a r => simp at h; subst h; simp [width, h2]
theorem look_le (l : List UInt8) (most : Int) : (look l most).2.1 ≤ l.length ∧ (look l most).1 ≤ 1099511627776 ∧ ((look l most).2.2 = 0 ∨ (look l most).2.2 = 2 ∨ (look l most).2.2 = 3 ∨ (look l most).2.2 = 4) ∧ ((look l most).2.2 ≠ 0 → (look l most).2.1 = 0 ∧ (look l most).1 = 0) := by
  have h := width_le l
  unfold look
  split
  · refine ⟨by simp, by simp, ?_, by simp⟩
    simp only
    omega
  · split
    · simp
    · rename_i h1 h2
      refine ⟨by simp only; omega, by simp only; omega, by simp, fun h => absurd rfl h⟩
theorem look_most (l : List UInt8) (most : Int) (h : (look l most).2.2 = 0) : ((look l most).1 : Int) ≤ most := by
  unfold look at h ⊢
  split
  · rename_i h1; rw [if_pos h1] at h; exact absurd h h1
  · rename_i h1
    rw [if_neg h1] at h
    split
    · rename_i h2; rw [if_pos h2] at h; simp at h
    · simp only; omega
end Go.Proofs.YtdmejcfnolhplaaGreat.Vlq
/-
  The contract of the program's putNum: it puts the document's bytes of the held number behind a slice of the call's own. Condition: the slice has at most 2^46 bytes.
-/
namespace Go.Proofs.YtdmejcfnolhplaaGreat.Vlq
open Go.RowKit
set_option linter.unusedVariables false
theorem andNot128_all : ∀ k : Fin 256, bits .andNot .u8 (k.val : Int) 128 = ((UInt8.ofNat (k.val % 128)).toNat : Int) := by decide +kernel
end Go.Proofs.YtdmejcfnolhplaaGreat.Vlq
