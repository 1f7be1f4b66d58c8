/-
  Some texts of this claim, one behind the other: VlqMath, VlqMath2, Words, VlqRef, VlqPutNum. What each proves, and its condition, stands at its head.
-/
import Derived.Test.YtmoeilkaadnnoaaGreatZ1
import Derived.Test.YtmoeilkaadnnoaaGreatChecked
import Derived.Lib.SlBytesConst
/-
  The bytes of a number, as plain mathematics. No condition.
-/
namespace Go.Proofs.YtmoeilkaadnnoaaGreat.Vlq
set_option linter.unusedVariables false
/-- The bytes ahead of the last one. -/
def hi (n : Nat) : List UInt8 := if h : n = 0 then [] else hi (n / 128) ++ [UInt8.ofNat (128 + n % 128)]
  termination_by n
  decreasing_by omega
/-- The bytes of a number. -/
def enc (n : Nat) : List UInt8 := hi (n / 128) ++ [UInt8.ofNat (n % 128)]
theorem hi_zero : hi 0 = [] := by unfold hi; simp
theorem hi_pos (n : Nat) (h : 0 < n) : hi n = hi (n / 128) ++ [UInt8.ofNat (128 + n % 128)] := by
  rw [hi]; simp [Nat.pos_iff_ne_zero.1 h]
/-- A number held from 0 to MaxNum. -/
def held (n : Int) : Nat := (min (max n 0) 1099511627776).toNat
theorem held_le (n : Int) : held n ≤ 1099511627776 := by unfold held; omega
theorem held_of (n : Int) (h0 : 0 ≤ n) (h1 : n ≤ 1099511627776) : (held n : Int) = n := by unfold held; omega
theorem div_step (x j : Nat) : x / 128 ^ (j + 1) = x / 128 ^ j / 128 := by rw [Nat.div_div_eq_div_mul, Nat.pow_succ]
theorem pow7 (j : Nat) : (2 : Nat) ^ (7 * j) = 128 ^ j := by rw [Nat.pow_mul]
theorem int_div (x j : Nat) : (x : Int) / 2 ^ (7 * j) = ((x / 128 ^ j : Nat) : Int) := by
  rw [← pow7]; simp
theorem int_div' (x j : Nat) : (x : Int) / 2 ^ (7 * j + 7) = ((x / 128 ^ (j + 1) : Nat) : Int) := by
  rw [show 7 * j + 7 = 7 * (j + 1) from by omega]; exact int_div x (j + 1)
theorem small_pow (x j : Nat) (hx : x ≤ 1099511627776) (h : 0 < x / 128 ^ j) : j ≤ 5 := by
  by_cases hj : 6 ≤ j
  · exfalso
    have h1 : (128 : Nat) ^ 6 ≤ 128 ^ j := Nat.pow_le_pow_right (by omega) hj
    have : x / 128 ^ j = 0 := Nat.div_eq_of_lt (by omega)
    omega
  · omega
theorem hi_step (x j : Nat) (h : 0 < x / 128 ^ j) : hi (x / 128 ^ (j + 1)) ++ [UInt8.ofNat (128 + x / 128 ^ j % 128)] = hi (x / 128 ^ j) := by
  rw [div_step, ← hi_pos _ h]
theorem hi_length (n k : Nat) (h : n < 128 ^ k) : (hi n).length ≤ k := by
  induction k generalizing n with
  | zero => have : n = 0 := by simpa using h
            subst this; simp [hi_zero]
  | succ k ih =>
    by_cases h0 : n = 0
    · subst h0; simp [hi_zero]
    · rw [hi_pos n (by omega)]
      have := ih (n / 128) (by rw [Nat.pow_succ] at h; omega)
      simp; omega
theorem enc_length (n : Nat) (h : n ≤ 1099511627776) : (enc n).length ≤ 6 := by
  have := hi_length (n / 128) 5 (by omega)
  unfold enc; simp; omega
theorem enc_pos (n : Nat) : 0 < (enc n).length := by unfold enc; simp
end Go.Proofs.YtmoeilkaadnnoaaGreat.Vlq
/-
  The number that bytes begin with, as plain mathematics. No condition.
-/
namespace Go.Proofs.YtmoeilkaadnnoaaGreat.Vlq
set_option linter.unusedVariables false
def wd : List UInt8 → Nat → Nat × Int
  | [], _ => (0, 2)
  | c :: r, i => if c.toNat < 128 then (i + 1, 0) else if i + 1 = 6 then (0, 4) else wd r (i + 1)
def width (l : List UInt8) : Nat × Int :=
  match l with
  | [] => (0, 2)
  | c :: r => if c.toNat = 128 then (0, 3) else wd (c :: r) 0
def val (l : List UInt8) : Nat := l.foldl (fun n c => n * 128 + c.toNat % 128) 0
def look (l : List UInt8) (most : Int) : Nat × Nat × Int :=
  if (width l).2 ≠ 0 then (0, 0, (width l).2)
  else if 1099511627776 < val (l.take (width l).1) ∨ most < (val (l.take (width l).1) : Int) then (0, 0, 4)
  else (val (l.take (width l).1), (width l).1, 0)
theorem val_snoc (l : List UInt8) (c : UInt8) : val (l ++ [c]) = val l * 128 + c.toNat % 128 := by simp [val]
theorem val_lt' (l : List UInt8) (n : Nat) : l.foldl (fun n c => n * 128 + c.toNat % 128) n < (n + 1) * 128 ^ l.length := by
  induction l generalizing n with
  | nil => simp
  | cons c l ih =>
    have h := ih (n * 128 + c.toNat % 128)
    simp only [List.foldl_cons, List.length_cons]
    have h2 : (n * 128 + c.toNat % 128 + 1) * 128 ^ l.length ≤ ((n + 1) * 128) * 128 ^ l.length := Nat.mul_le_mul_right _ (by omega)
    rw [Nat.pow_succ, Nat.mul_comm (128 ^ l.length) 128, ← Nat.mul_assoc]
    omega
theorem val_lt (l : List UInt8) : val l < 128 ^ l.length := by have h := val_lt' l 0; unfold val; omega
theorem val_take (l : List UInt8) (i : Nat) (c : UInt8) (h : l[i]? = some c) : val (l.take (i + 1)) = val (l.take i) * 128 + c.toNat % 128 := by
  rw [List.take_add_one, h]; exact val_snoc _ _
theorem val_take_lt (l : List UInt8) (i k : Nat) (h : i ≤ k) : val (l.take i) < 128 ^ k := by
  have h1 := val_lt (l.take i)
  have h2 : (128 : Nat) ^ (l.take i).length ≤ 128 ^ k := Nat.pow_le_pow_right (by omega) (Nat.le_trans (List.length_take_le _ _) h)
  omega
theorem wd_drop (l : List UInt8) (i : Nat) (c : UInt8) (h : l[i]? = some c) (hc : ¬ c.toNat < 128) (h6 : i + 1 ≠ 6) : wd (l.drop i) i = wd (l.drop (i + 1)) (i + 1) := by
  have hl : i < l.length := (List.getElem?_eq_some_iff.1 h).1
  have e : l[i] = c := (List.getElem?_eq_some_iff.1 h).2
  rw [List.drop_eq_getElem_cons hl, e, wd, if_neg hc, if_neg h6]
theorem wd_long (l : List UInt8) (i : Nat) (c : UInt8) (h : l[i]? = some c) (hc : ¬ c.toNat < 128) (h6 : i + 1 = 6) : wd (l.drop i) i = (0, 4) := by
  have hl : i < l.length := (List.getElem?_eq_some_iff.1 h).1
  have e : l[i] = c := (List.getElem?_eq_some_iff.1 h).2
  rw [List.drop_eq_getElem_cons hl, e, wd, if_neg hc, if_pos h6]
theorem wd_stop (l : List UInt8) (i : Nat) (c : UInt8) (h : l[i]? = some c) (hc : c.toNat < 128) : wd (l.drop i) i = (i + 1, 0) := by
  have hl : i < l.length := (List.getElem?_eq_some_iff.1 h).1
  have e : l[i] = c := (List.getElem?_eq_some_iff.1 h).2
  rw [List.drop_eq_getElem_cons hl, e, wd, if_pos hc]
theorem wd_end (l : List UInt8) (i : Nat) (h : l.length ≤ i) : wd (l.drop i) i = (0, 2) := by rw [List.drop_of_length_le h]; rfl
/-- How wide a number may be. -/
theorem wd_le (l : List UInt8) (i : Nat) (hi : i ≤ 5) : (wd l i).1 ≤ i + l.length ∧ (wd l i).1 ≤ 6 ∧ ((wd l i).2 = 0 ∨ (wd l i).2 = 2 ∨ (wd l i).2 = 4) := by
  induction l generalizing i with
  | nil => simp [wd]
  | cons c r ih =>
    unfold wd
    split
    · simp; omega
    · split
      · simp
      · have := ih (i + 1) (by omega)
        simp; omega
theorem width_le (l : List UInt8) : (width l).1 ≤ l.length ∧ (width l).1 ≤ 6 ∧ ((width l).2 = 0 ∨ (width l).2 = 2 ∨ (width l).2 = 3 ∨ (width l).2 = 4) := by
  unfold width
  split
  · simp
  · split
    · simp
    · rename_i c r _
      have := wd_le (c :: r) 0 (by omega)
      omega
theorem width_cons (l : List UInt8) (c : UInt8) (h : l[0]? = some c) (h2 : c.toNat ≠ 128) : width l = wd l 0 := by
  cases l with
  | nil => simp at h
  | cons a r => simp at h; subst h; simp [width, h2]
theorem width_128 (l : List UInt8) (c : UInt8) (h : l[0]? = some c) (h2 : c.toNat = 128) : width l = (0, 3) := by
  cases l with
  | nil => simp at h
  | cons a r => simp at h; subst h; simp [width, h2]
theorem look_le (l : List UInt8) (most : Int) : (look l most).2.1 ≤ l.length ∧ (look l most).1 ≤ 1099511627776 ∧ ((look l most).2.2 = 0 ∨ (look l most).2.2 = 2 ∨ (look l most).2.2 = 3 ∨ (look l most).2.2 = 4) ∧ ((look l most).2.2 ≠ 0 → (look l most).2.1 = 0 ∧ (look l most).1 = 0) := by
  have h := width_le l
  unfold look
  split
  · refine ⟨by simp, by simp, ?_, by simp⟩
    simp only
    omega
  · split
    · simp
    · rename_i h1 h2
      refine ⟨by simp only; omega, by simp only; omega, by simp, fun h => absurd rfl h⟩
theorem look_most (l : List UInt8) (most : Int) (h : (look l most).2.2 = 0) : ((look l most).1 : Int) ≤ most := by
  unfold look at h ⊢
  split
  · rename_i h1; rw [if_pos h1] at h; exact absurd h h1
  · rename_i h1
    rw [if_neg h1] at h
    split
    · rename_i h2; rw [if_pos h2] at h; simp at h
    · simp only; omega
end Go.Proofs.YtmoeilkaadnnoaaGreat.Vlq
/-
  Words for slices of bytes: a new slice of bytes, string() of it, what stays as memory grows. No condition.
-/
namespace Go.Proofs.YtmoeilkaadnnoaaGreat
open Go.RowKit
set_option linter.unusedVariables false
theorem info_u8 : (Tryz.prog.info? 5).map (fun i => (i.zero, i.size, i.bytes)) = some (some (.int .u8 0), 1, 1) := by kernel_rfl
theorem info_u8' : (Tryz.prog.info? 5).map (·.size) = some 1 := by kernel_rfl
/-- string() of a new slice of bytes, whatever the bytes are. -/
theorem conv_new (W : World) (zs : List Int) (c : Nat) : (convert 50 9 (.slice (some ⟨W.heap.size, 0, none⟩) zs.length c)).run Tryz.prog (W.alloc (.cells (zs.map (Value.int .u8)).toArray 5)) = .ok (.string (strOfNums zs)) (W.alloc (.cells (zs.map (Value.int .u8)).toArray 5)) := by
  refine run_convert_bytes_arg (P := Tryz.prog) _ 50 5 Tryz.underlying50 Tryz.underlying5 W.heap.size 0 zs.length c zs rfl ?_ 9 Tryz.underlying9
  intro i hi
  refine (World.cell?_alloc_at _ _ _ _ rfl).trans ?_
  simp [hi]
/-- '[]byte("..")' of a constant text. -/
theorem conv_const (w : World) (C : Array Value) (n c : Nat) : (convert 50 50 (.slice (some ⟨w.heap.size, 0, none⟩) n c)).run Tryz.prog (w.alloc (.cells C 5)) = .ok (.slice (some ⟨w.heap.size, 0, none⟩) n c) (w.alloc (.cells C 5 (C.size, C.size + 1))) :=
  Lib.run_convert_bytes_const (P := Tryz.prog) w 50 5 C n c Tryz.underlying50 Tryz.underlying5
/-- What a new slice of bytes is: it reads as l, and string() of it is l. -/
def NewB (w : World) (B : Nat) (A : Option Addr) (n c : Nat) (l : List UInt8) : Prop :=
  n = l.length ∧ n ≤ c ∧ w.ownsRow B 5 1 (.slice A n c) n (bcs l) ∧ Reads w w.heap.size 1 A n (bcs l)
theorem conv_of {w : World} {B n c : Nat} {A : Option Addr} {l : List UInt8} (h : Reads w B 1 A n (bcs l)) : (convert 50 9 (.slice A n c)).run Tryz.prog w = .ok (.string (str l)) w :=
  run_str w _ _ _ c Tryz.underlying50 Tryz.underlying5 Tryz.underlying9 h
theorem NewB.conv {w : World} {B : Nat} {A : Option Addr} {n c : Nat} {l : List UInt8} (h : NewB w B A n c l) : (convert 50 9 (.slice A n c)).run Tryz.prog w = .ok (.string (str l)) w := conv_of h.2.2.2
theorem new_of_own {w : World} {B n : Nat} {v : Value} {l : List UInt8} (h : w.ownsRow B 5 1 v n (bcs l)) : ∃ A c, v = .slice A n c ∧ NewB w B A n c l := by
  obtain ⟨A, c, rfl, hc, hm, hr⟩ := own_form h
  have hn : n = l.length := by have := h.1; rw [bcs_length] at this; omega
  exact ⟨A, c, rfl, hn, hc, h, hr⟩
theorem NewB.below {w w' : World} {B : Nat} {A : Option Addr} {n c : Nat} {l : List UInt8} (h : NewB w B A n c l) (hb : Below w.heap.size w w') : NewB w' B A n c l :=
  ⟨h.1, h.2.1, own_below h.2.2.1 hb, (h.2.2.2.below hb).more hb.size⟩
theorem NewB.less {w : World} {B B' : Nat} {A : Option Addr} {n c : Nat} {l : List UInt8} (h : NewB w B A n c l) (hB : B' ≤ B) : NewB w B' A n c l :=
  ⟨h.1, h.2.1, own_less h.2.2.1 hB, h.2.2.2⟩
/-- One byte of a new slice is written over. -/
theorem NewB.turn {w : World} {B : Nat} {A : Option Addr} {n c : Nat} {l : List UInt8} (h : NewB w B A n c l) (i : Nat) (z : UInt8) (hz : l[i]? = some z) :
    ∃ g, A = some ⟨g, 0, none⟩ ∧ B ≤ g ∧ g < w.heap.size ∧ w.cell? ⟨g, i, none⟩ = some (.int .u8 (z.toNat : Int)) ∧ w.frozen? ⟨g, i, none⟩ = false ∧
      ∀ y : UInt8, NewB (w.setCell ⟨g, i, none⟩ (.int .u8 (y.toNat : Int))) B A n c (l.set i y) := by
  obtain ⟨h1, h2, h3, h4⟩ := h
  have hi : i < l.length := (List.getElem?_eq_some_iff.1 hz).1
  rcases h3.2 with ⟨hv, hn⟩ | ⟨g, cap, cur, hv, hB, hg, hnc, hm, hcs, ht⟩
  · omega
  · injection hv with e1 e2 e3
    subst e1 e3
    have hb : Blk w g 5 cur := hg
    refine ⟨g, rfl, hB, hb.lt, ?_, hb.frozen i, fun y => ?_⟩
    · obtain ⟨ad, u, hA, _, hx, hc⟩ := h4.at_ (k := i) (by omega)
      injection hA with hA
      subst hA
      rw [bcs_get, hz] at hx
      have hadd : (⟨g, 0, none⟩ : Addr).add i = ⟨g, i, none⟩ := by unfold Addr.add; split <;> simp_all
      rw [hadd] at hc
      rw [hc]
      exact hx.symm
    · have hb2 := hb.set_ i (.int .u8 (y.toNat : Int))
      have hown : (w.setCell ⟨g, i, none⟩ (.int .u8 (y.toNat : Int))).ownsRow B 5 1 (.slice (some ⟨g, 0, none⟩) n c) n (bcs (l.set i y)) := by
        refine ⟨by rw [bcs_length, List.length_set]; omega, .inr ⟨g, c, _, rfl, hB, hb2, h2, hm, by simpa using hcs, ?_⟩⟩
        rw [bcs_set, ← ht]
        simp [List.take_set]
      exact ⟨by rw [List.length_set]; exact h1, h2, hown, .of_own hown⟩
end Go.Proofs.YtmoeilkaadnnoaaGreat
/-
  The contracts of the document's own Num, Nums and Text: they answer the bytes as the plain mathematics has them. Condition: lists and texts as long as a call may have them.
-/
namespace Go.Proofs.YtmoeilkaadnnoaaGreat.Vlq
open Go.RowKit
set_option linter.unusedVariables false
theorem conv1 (W : World) (z : Int) : (convert 50 9 (.slice (some ⟨W.heap.size, 0, none⟩) 1 1)).run Tryz.prog (W.alloc (.cells #[.int .u8 z] 5)) = .ok (.string (strOfNums [z])) (W.alloc (.cells #[.int .u8 z] 5)) := by
  refine run_convert_bytes_arg (P := Tryz.prog) (W.alloc (.cells #[.int .u8 z] 5)) 50 5 Tryz.underlying50 Tryz.underlying5 W.heap.size 0 1 1 [z] rfl ?_ 9 Tryz.underlying9
  intro i hi
  have h0 : i = 0 := by omega
  subst h0
  exact (World.cell?_alloc_at _ _ _ _ rfl).trans rfl
theorem strOfNums_one (z : Int) (y : Nat) (h : z = (y : Int)) : strOfNums [z] = str [UInt8.ofNat y] := by subst h; simp [strOfNums, str]
/-- The bytes of numbers. -/
def encs (l : List Int) : List UInt8 := l.flatMap fun n => enc (held n)
theorem encs_length (l : List Int) : (encs l).length ≤ 6 * l.length := by
  induction l with
  | nil => simp [encs]
  | cons n l ih =>
    have := enc_length (held n) (held_le n)
    simp only [encs, List.flatMap_cons, List.length_append, List.length_cons] at ih ⊢
    omega
theorem encs_snoc (l : List Int) (k : Nat) (n : Int) (h : l[k]? = some n) : encs (l.take (k + 1)) = encs (l.take k) ++ enc (held n) := by
  rw [take_snoc' l k n h]; simp [encs]
end Go.Proofs.YtmoeilkaadnnoaaGreat.Vlq
/-
  The contract of the program's putNum: it puts the document's bytes of the held number behind a slice of the call's own. Condition: the slice has at most 2^46 bytes.
-/
namespace Go.Proofs.YtmoeilkaadnnoaaGreat.Vlq
open Go.RowKit
set_option linter.unusedVariables false
theorem or128_all : ∀ k : Fin 256, bits .or .u8 (k.val : Int) 128 = ((UInt8.ofNat (128 + k.val % 128)).toNat : Int) := by decide +kernel
theorem andNot128_all : ∀ k : Fin 256, bits .andNot .u8 (k.val : Int) 128 = ((UInt8.ofNat (k.val % 128)).toNat : Int) := by decide +kernel
theorem or128 (y : Nat) : bits .or .u8 ((y : Int) % 256) 128 = ((UInt8.ofNat (128 + y % 128)).toNat : Int) := by
  have := or128_all ⟨y % 256, by omega⟩
  simp only at this
  rw [show ((y : Int) % 256) = ((y % 256 : Nat) : Int) from by omega, this, show y % 256 % 128 = y % 128 from by omega]
theorem andNot128 (y : Nat) : bits .andNot .u8 ((y : Int) % 256) 128 = ((UInt8.ofNat (y % 128)).toNat : Int) := by
  have := andNot128_all ⟨y % 256, by omega⟩
  simp only at this
  rw [show ((y : Int) % 256) = ((y % 256 : Nat) : Int) from by omega, this, show y % 256 % 128 = y % 128 from by omega]
theorem or128_cell (x i : Nat) : [Value.int .u8 (bits .or .u8 ((x : Int) / 2 ^ (7 * i) % 256) 128)] = bcs [UInt8.ofNat (128 + x / 128 ^ i % 128)] := by
  rw [int_div, or128]; rfl
theorem andNot128_cell (x : Nat) : [Value.int .u8 (bits .andNot .u8 ((x : Int) % 256) 128)] = bcs [UInt8.ofNat (x % 128)] := by
  rw [andNot128]; rfl
end Go.Proofs.YtmoeilkaadnnoaaGreat.Vlq
