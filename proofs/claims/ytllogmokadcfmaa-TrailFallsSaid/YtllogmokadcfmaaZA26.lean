/-
  Some texts of this claim, one behind the other: PickCells. What each proves, and its condition, stands at its head.
-/
import Derived.Test.YtllogmokadcfmaaZA8
import Derived.Test.YtllogmokadcfmaaZA1
import Derived.Test.YtllogmokadcfmaaZA2
import Derived.Test.YtllogmokadcfmaaChecked
import Derived.Laws.Cover1
/-
  Slices of picks in memory: what came in with a call, and new ones of the call's own. No condition.
-/
namespace Go.Proofs.Ytllogmokadcfmaa.Pick
open Go Go.RowKit Go.Lib
set_option linter.unusedVariables false
def pks : List Pk → List Value
  | [] => []
  | s :: t => .string s.1 :: .int .i64 s.2 :: pks t
theorem pks_length (l : List Pk) : (pks l).length = l.length * 2 := by
  induction l with
  | nil => rfl
  | cons s t ih => simp [pks, ih]; omega
theorem pks_get (l : List Pk) : ∀ (i : Nat) (s : Pk), l[i]? = some s → (pks l)[i * 2]? = some (.string s.1) ∧ (pks l)[i * 2 + 1]? = some (.int .i64 s.2) := by
  induction l with
  | nil => intro i s h; simp at h
  | cons x t ih =>
    intro i s h
    cases i with
    | zero => simp at h; subst h; exact ⟨rfl, rfl⟩
    | succ i =>
      rw [List.getElem?_cons_succ] at h
      have := ih i s h
      rw [show (i + 1) * 2 = i * 2 + 1 + 1 by omega, show i * 2 + 1 + 1 + 1 = (i * 2 + 1) + 1 + 1 by omega]
      exact this
theorem pks_take (l : List Pk) : ∀ k : Nat, (pks l).take (k * 2) = pks (l.take k) := by
  induction l with
  | nil => intro k; simp [pks]
  | cons x t ih =>
    intro k
    cases k with
    | zero => simp [pks]
    | succ k =>
      rw [show (k + 1) * 2 = k * 2 + 1 + 1 by omega]
      simp only [pks, List.take_succ_cons, ih]
theorem add_field (ad : Addr) (k : Nat) : ad.add (k + 1) = ⟨(ad.add k).block, (ad.add k).off + 1, none⟩ := by
  unfold Addr.add
  by_cases h : k = 0 <;> simp [h, Nat.add_assoc]
def PkIn (w : World) (B : Nat) (A : Option Addr) (n : Nat) (l : List Pk) : Prop := Reads w B 2 A n (pks l)
section
variable {w w' : World} {B B' n k : Nat} {A : Option Addr} {l : List Pk}
theorem PkIn.len (h : PkIn w B A n l) : l.length = n := by
  have := h.1
  rw [pks_length] at this
  omega
theorem PkIn.at_ (h : PkIn w B A n l) (hk : k < n) :
    ∃ ad s, A = some ad ∧ ad.block < B ∧ l[k]? = some s ∧ w.cell? (ad.add (k * 2)) = some (.string s.1) ∧ w.cell? ⟨(ad.add (k * 2)).block, (ad.add (k * 2)).off + 1, none⟩ = some (.int .i64 s.2) := by
  have hl := h.len
  obtain ⟨ad, hA, hb, hc⟩ := h.2 (by omega)
  obtain ⟨g1, g2⟩ := pks_get l k (l[k]'(by omega)) (by simp)
  refine ⟨ad, l[k]'(by omega), hA, hb, by simp, hc _ _ g1, ?_⟩
  rw [← add_field]
  exact hc _ _ g2
theorem PkIn.nil (w : World) (B : Nat) (A : Option Addr) : PkIn w B A 0 [] := ⟨rfl, fun h => absurd h (by omega)⟩
theorem PkIn.take (h : PkIn w B A n l) (hk : k ≤ n) : PkIn w B A k (l.take k) := by
  have hl := h.len
  refine ⟨by rw [pks_length, List.length_take]; omega, fun hn => ?_⟩
  obtain ⟨ad, hA, hb, hc⟩ := h.2 (by omega)
  refine ⟨ad, hA, hb, fun j u hu => ?_⟩
  rw [← pks_take, List.getElem?_take] at hu
  split at hu
  · exact hc j u hu
  · cases hu
end
def PkOn (w : World) (A : Option Addr) (n : Nat) (l : List Pk) : Prop := PkIn w w.heap.size A n l
theorem PkOn.len {w : World} {A : Option Addr} {n : Nat} {l : List Pk} (h : PkOn w A n l) : l.length = n := PkIn.len h
end Go.Proofs.Ytllogmokadcfmaa.Pick
