/-
  Where a name's pick stands among picks whose names rise, or would stand; what is got, put and dropped by that place. No program.
-/
import Derived.Test.YtnkcjemobljpdaaDoorPickMath
namespace Go.Proofs.YtnkcjemobljpdaaDoor.Pick
open Go.RowKit Go.Lib Go.Proofs.YtnkcjemobljpdaaDoor.Span Go.Proofs.YtnkcjemobljpdaaDoor.Need
set_option linter.unusedVariables false
/-- How many picks stand ahead of a name. -/
def fidx : List Pk → ByteArray → Nat
  | [], _ => 0
  | q :: t, n => if nlt q.1 n = true then fidx t n + 1 else 0
theorem fidx_le : ∀ (l : List Pk) (n : ByteArray), fidx l n ≤ l.length
  | [], _ => Nat.le_refl _
  | q :: t, n => by
    unfold fidx
    have := fidx_le t n
    split
    · simpa using this
    · exact Nat.zero_le _
theorem fidx_lt : ∀ {l : List Pk}, RisesP l → ∀ (n : ByteArray) (i : Nat) (q : Pk), l[i]? = some q → (nlt q.1 n = true ↔ i < fidx l n)
  | [], _, n, i, q, h => by simp at h
  | x :: t, hr, n, 0, q, h => by
    simp at h
    subst h
    unfold fidx
    split
    · rename_i g; simp [g]
    · rename_i g; simp [g]
  | x :: t, hr, n, i + 1, q, h => by
    rw [List.getElem?_cons_succ] at h
    obtain ⟨h1, h2⟩ := List.pairwise_cons.1 hr
    have ih := fidx_lt h2 n i q h
    unfold fidx
    split
    · rw [ih]; omega
    · rename_i g
      constructor
      · intro g2
        exact absurd (nlt_trans (h1 q (List.mem_of_getElem? h)) g2) g
      · intro g2; omega
/-- Those behind a name that is not less. -/
theorem above {x : Pk} {t : List Pk} {n : ByteArray} (h : ∀ q ∈ t, nlt x.1 q.1 = true) (g : ¬ nlt x.1 n = true) : ∀ q ∈ t, nlt n q.1 = true := fun q hq => by
  rcases nlt_cases x.1 n with g1 | g1 | g1
  · exact absurd g1 g
  · rw [← g1]; exact h q hq
  · exact nlt_trans g1 (h q hq)
theorem above_ne {t : List Pk} {n : ByteArray} (h : ∀ q ∈ t, nlt n q.1 = true) : ∀ q ∈ t, q.1 ≠ n := fun q hq e => by
  have := h q hq
  rw [e, nlt_self] at this
  cases this
/-- The pick of a name. -/
theorem fidx_get : ∀ {l : List Pk}, RisesP l → ∀ (n : ByteArray), getP l n = (l[fidx l n]?).bind fun q => if q.1 = n then some q.2 else none
  | [], _, n => rfl
  | x :: t, hr, n => by
    obtain ⟨h1, h2⟩ := List.pairwise_cons.1 hr
    have ih := fidx_get h2 n
    unfold fidx
    split
    · rename_i g
      rw [getP, if_neg (nlt_ne g), List.getElem?_cons_succ]
      exact ih
    · rename_i g
      rw [getP]
      show _ = (some x).bind _
      rw [Option.bind_some]
      by_cases e : x.1 = n
      · rw [if_pos e, if_pos e]
      · rw [if_neg e, if_neg e, getP_none (above_ne (above h1 g))]
/-- What stands behind: from the next one on, if the name has a pick. -/
def nidx (l : List Pk) (n : ByteArray) : Nat := if (getP l n).isSome = true then fidx l n + 1 else fidx l n
theorem drop_fidx : ∀ {l : List Pk}, RisesP l → ∀ (n : ByteArray), dropP l n = l.take (fidx l n) ++ l.drop (nidx l n)
  | [], _, n => by simp [dropP, fidx]
  | x :: t, hr, n => by
    obtain ⟨h1, h2⟩ := List.pairwise_cons.1 hr
    have ih := drop_fidx h2 n
    unfold nidx at ih ⊢
    rw [getP]
    unfold fidx
    by_cases g : nlt x.1 n = true
    · rw [if_pos g, if_neg (nlt_ne g)]
      have e : dropP (x :: t) n = x :: dropP t n := by unfold dropP; simp [nlt_ne g]
      rw [e, ih, List.take_succ_cons]
      split <;> simp
    · rw [if_neg g]
      by_cases e : x.1 = n
      · rw [if_pos e]
        have e2 : dropP (x :: t) n = dropP t n := by unfold dropP; simp [e]
        rw [e2, dropP_none (above_ne (above h1 g))]
        simp
      · rw [if_neg e, getP_none (above_ne (above h1 g))]
        have e2 : dropP (x :: t) n = x :: dropP t n := by unfold dropP; simp [e]
        rw [e2, dropP_none (above_ne (above h1 g))]
        simp
theorem ins_first {p : Pk} {t : List Pk} (h : ∀ q ∈ t, nlt p.1 q.1 = true) : insP p false t = p :: t := by
  cases t with
  | nil => rfl
  | cons y u => exact insP_lt (h y (by simp))
theorem put_fidx : ∀ {l : List Pk}, RisesP l → ∀ (p : Pk), putP l p = l.take (fidx l p.1) ++ ([p] ++ l.drop (nidx l p.1))
  | [], _, p => by simp [putP, dropP, fidx, insP]
  | x :: t, hr, p => by
    obtain ⟨h1, h2⟩ := List.pairwise_cons.1 hr
    have ih := put_fidx h2 p
    unfold putP nidx at ih ⊢
    rw [getP]
    unfold fidx
    by_cases g : nlt x.1 p.1 = true
    · rw [if_pos g, if_neg (nlt_ne g)]
      have e : dropP (x :: t) p.1 = x :: dropP t p.1 := by unfold dropP; simp [nlt_ne g]
      rw [e, insP_ge (nlt_asymm g), ih, List.take_succ_cons]
      split <;> simp
    · rw [if_neg g]
      have ha := above h1 g
      by_cases e : x.1 = p.1
      · rw [if_pos e]
        have e2 : dropP (x :: t) p.1 = dropP t p.1 := by unfold dropP; simp [e]
        rw [e2, dropP_none (above_ne ha), ins_first ha]
        simp
      · rw [if_neg e, getP_none (above_ne ha)]
        have e2 : dropP (x :: t) p.1 = x :: dropP t p.1 := by unfold dropP; simp [e]
        have e3 : nlt p.1 x.1 = true := by
          rcases nlt_cases x.1 p.1 with f | f | f
          · exact absurd f g
          · exact absurd f e
          · exact f
        rw [e2, dropP_none (above_ne ha), insP_lt e3]
        simp
end Go.Proofs.YtnkcjemobljpdaaDoor.Pick
