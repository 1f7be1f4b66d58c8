/-
  Slices of spans: what came in with a call, and new ones of the call's own. No condition.
-/
import Derived.Test.YtnkcjemobljpdaaDoorSpanMath
import Derived.Test.YtnkcjemobljpdaaDoorCells
import Derived.Test.YtnkcjemobljpdaaDoorLie
import Derived.Test.YtnkcjemobljpdaaDoorChecked
namespace Go.Proofs.YtnkcjemobljpdaaDoor.Span
open Go.RowKit
set_option linter.unusedVariables false
theorem info_int : (Tryd.prog.info? 3).map (fun i => (i.zero, i.size, i.bytes)) = some (some (.int .i64 0), 1, 8) := by kernel_rfl
/-- A slice that reads as spans. -/
def SpIn (w : World) (B : Nat) (A : Option Addr) (n : Nat) (l : List S) : Prop :=
  l.length = n ∧ (0 < n → ∃ ad, A = some ad ∧ ad.block < B ∧ ∀ i s, l[i]? = some s → w.cell? (ad.add (i * 2)) = some (.int .i64 s.1) ∧ w.cell? ⟨(ad.add (i * 2)).block, (ad.add (i * 2)).off + 1, none⟩ = some (.int .i64 s.2))
theorem add_field (ad : Addr) (k : Nat) : ad.add (k + 1) = ⟨(ad.add k).block, (ad.add k).off + 1, none⟩ := by
  unfold Addr.add
  by_cases h : k = 0 <;> simp [h, Nat.add_assoc]
theorem SpIn.at_ {w : World} {B n k : Nat} {A : Option Addr} {l : List S} (h : SpIn w B A n l) (hk : k < n) :
    ∃ ad s, A = some ad ∧ ad.block < B ∧ l[k]? = some s ∧ w.cell? (ad.add (k * 2)) = some (.int .i64 s.1) ∧ w.cell? ⟨(ad.add (k * 2)).block, (ad.add (k * 2)).off + 1, none⟩ = some (.int .i64 s.2) := by
  obtain ⟨hl, h⟩ := h
  obtain ⟨ad, hA, hb, hc⟩ := h (by omega)
  have hp : l[k]? = some l[k] := by simp
  exact ⟨ad, l[k], hA, hb, hp, (hc k _ hp).1, (hc k _ hp).2⟩
theorem SpIn.below {w w' : World} {B n : Nat} {A : Option Addr} {l : List S} (h : SpIn w B A n l) (hb : Below B w w') : SpIn w' B A n l :=
  ⟨h.1, fun hn => by
    obtain ⟨ad, hA, hbl, hc⟩ := h.2 hn
    refine ⟨ad, hA, hbl, fun i p hp => ?_⟩
    rw [hb.cell (by rw [block_of_add]; exact hbl), hb.cell (p := ⟨(ad.add (i * 2)).block, (ad.add (i * 2)).off + 1, none⟩) (by simp only [block_of_add]; exact hbl)]
    exact hc i p hp⟩
theorem SpIn.more {w : World} {B B' n : Nat} {A : Option Addr} {l : List S} (h : SpIn w B A n l) (hb : B ≤ B') : SpIn w B' A n l :=
  ⟨h.1, fun hn => by
    obtain ⟨ad, hA, hbl, hc⟩ := h.2 hn
    exact ⟨ad, hA, by omega, hc⟩⟩
theorem SpIn.drewN {w : World} {B n : Nat} {A : Option Addr} {l : List S} (h : SpIn w B A n l) (k : Nat) : SpIn (w.drewN k) B A n l := h
theorem SpIn.nil (w : World) (B : Nat) (A : Option Addr) : SpIn w B A 0 [] := ⟨rfl, fun h => absurd h (by omega)⟩
/-- Spans as cells. -/
def scs : List S → List Value
  | [] => []
  | s :: t => .int .i64 s.1 :: .int .i64 s.2 :: scs t
theorem scs_length (l : List S) : (scs l).length = l.length * 2 := by
  induction l with
  | nil => rfl
  | cons s t ih => simp [scs, ih]; omega
theorem scs_append (l m : List S) : scs (l ++ m) = scs l ++ scs m := by
  induction l with
  | nil => rfl
  | cons s t ih => simp [scs, ih]
theorem scs_one (l : List S) : ∀ u ∈ scs l, u.oneCell' = true := by
  induction l with
  | nil => intro u hu; cases hu
  | cons s t ih =>
    intro u hu
    simp only [scs, List.mem_cons] at hu
    rcases hu with rfl | rfl | hu
    · rfl
    · rfl
    · exact ih u hu
theorem scs_get (l : List S) : ∀ (i : Nat) (s : S), l[i]? = some s → (scs l)[i * 2]? = some (.int .i64 s.1) ∧ (scs l)[i * 2 + 1]? = some (.int .i64 s.2) := by
  induction l with
  | nil => intro i s h; simp at h
  | cons x t ih =>
    intro i s h
    cases i with
    | zero => simp at h; subst h; exact ⟨rfl, rfl⟩
    | succ i =>
      rw [List.getElem?_cons_succ] at h
      have := ih i s h
      rw [show (i + 1) * 2 = i * 2 + 1 + 1 by omega, show i * 2 + 1 + 1 + 1 = (i * 2 + 1) + 1 + 1 by omega]
      exact this
theorem scs_set (l : List S) : ∀ (i : Nat) (s : S), scs (l.set i s) = ((scs l).set (i * 2) (.int .i64 s.1)).set (i * 2 + 1) (.int .i64 s.2) := by
  induction l with
  | nil => intro i s; rfl
  | cons x t ih =>
    intro i s
    cases i with
    | zero => rfl
    | succ i =>
      rw [show (i + 1) * 2 = i * 2 + 1 + 1 by omega, show i * 2 + 1 + 1 + 1 = (i * 2 + 1) + 1 + 1 by omega]
      simp only [List.set_cons_succ, scs, ih]
theorem spIn_of_reads {w : World} {B n : Nat} {A : Option Addr} {l : List S} (h : Reads w B 2 A n (scs l)) : SpIn w B A n l := by
  have hl : l.length = n := by have := h.1; rw [scs_length] at this; omega
  refine ⟨hl, fun hn => ?_⟩
  obtain ⟨ad, hA, hb, hc⟩ := h.2 hn
  refine ⟨ad, hA, hb, fun i s hs => ?_⟩
  obtain ⟨h1, h2⟩ := scs_get l i s hs
  exact ⟨hc _ _ h1, by rw [← add_field]; exact hc _ _ h2⟩
end Go.Proofs.YtnkcjemobljpdaaDoor.Span
