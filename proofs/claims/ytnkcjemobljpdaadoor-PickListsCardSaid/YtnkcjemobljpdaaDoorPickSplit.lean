/-
  Plain mathematics: the text of picks, cut at its commas, is the picks' own texts; a pick's text, cut at its blank, is its name and its version. No program.
-/
import Derived.Test.YtnkcjemobljpdaaDoorPickText
import Derived.Lib.Split
import Derived.Lib.Join
import Derived.Lib.IndexMore
namespace Go.Proofs.YtnkcjemobljpdaaDoor.Pick
open Go.RowKit Go.Lib Go.Proofs.YtnkcjemobljpdaaDoor.Need
open Go.Proofs.YtnkcjemobljpdaaDoor.Label (runes fitL)
open Go.Proofs.YtnkcjemobljpdaaDoor.Ver (txt)
set_option linter.unusedVariables false
theorem idx_at (a rest t : List UInt8) (c : UInt8) (h : ∀ b ∈ a, b ≠ c) : index (a ++ c :: (t ++ rest)) (c :: t) = a.length := by
  refine index_first (by simp) ?_ fun j hj => ?_
  · unfold occAt
    rw [List.drop_left]
    simp
  · cases e : occAt (a ++ c :: (t ++ rest)) (c :: t) j with
    | false => rfl
    | true =>
      have := occAt_head rfl e
      rw [List.getElem?_append_left hj] at this
      exact absurd rfl (h c (List.mem_of_getElem? this))
theorem idx_no (a t : List UInt8) (c : UInt8) (h : ∀ b ∈ a, b ≠ c) : index a (c :: t) = -1 := by
  refine index_none fun j _ => ?_
  cases e : occAt a (c :: t) j with
  | false => rfl
  | true => exact absurd rfl (h c (List.mem_of_getElem? (occAt_head rfl e)))
theorem more_show (q : Pk) (t : List Pk) : moreB (q :: t) = 44 :: ([32] ++ showB (q :: t)) := rfl
def Fits1 (l : List Pk) : Prop := ∀ q ∈ l, fitL (runes q.1 0) = true
theorem split_show : ∀ (t : List Pk) (q : Pk), Fits1 (q :: t) → count (showB (q :: t)) [44, 32] = t.length ∧ splitK [44, 32] 0 t.length (showB (q :: t)) = (q :: t).map pickB
  | [], q, h => by
    have h1 := (pickB_plain (h q (by simp))).2
    have e : showB [q] = pickB q := by simp [showB, moreB]
    rw [e]
    exact ⟨count_miss (idx_no _ _ _ h1), rfl⟩
  | x :: t, q, h => by
    have h1 := (pickB_plain (h q (by simp))).2
    obtain ⟨i1, i2⟩ := split_show t x fun y hy => h y (by simp [List.mem_cons] at hy ⊢; exact .inr hy)
    have e : showB (q :: x :: t) = pickB q ++ 44 :: ([32] ++ showB (x :: t)) := by
      show pickB q ++ moreB (x :: t) = _
      rw [more_show]
    have hx : index (showB (q :: x :: t)) [44, 32] = (pickB q).length := by
      rw [e]
      exact idx_at _ _ [32] 44 h1
    have hd : (showB (q :: x :: t)).drop ((pickB q).length + 2) = showB (x :: t) := by
      rw [e, List.drop_append]
      simp
    refine ⟨?_, ?_⟩
    · rw [count_hit (by simp) hx]
      show 1 + count ((showB (q :: x :: t)).drop ((pickB q).length + 2)) [44, 32] = _
      rw [hd, i1, List.length_cons]; omega
    · rw [List.length_cons, splitK, if_neg (by rw [hx]; simp), hx, List.map_cons]
      show (showB (q :: x :: t)).take ((pickB q).length + 0) :: splitK [44, 32] 0 t.length ((showB (q :: x :: t)).drop ((pickB q).length + 2)) = _
      rw [hd, i2, Nat.add_zero, e, List.take_left]
theorem join_show : ∀ {l : List Pk}, l ≠ [] → join (l.map pickB) [44, 32] = showB l
  | [], h => absurd rfl h
  | [q], _ => by rw [List.map_cons, List.map_nil, join_one]; simp [showB, moreB]
  | q :: x :: t, _ => by
    have ih := join_show (l := x :: t) (by simp)
    rw [List.map_cons, List.map_cons, join_cons]
    rw [List.map_cons, join_cons] at ih
    show _ = pickB q ++ moreB (x :: t)
    rw [more_show, ← ih]
    simp [joinTail]
theorem cut_pick {q : Pk} (h : fitL (runes q.1 0) = true) : Lib.cut (pickB q) [32] = (q.1.data.toList, txt q.2.toNat, true) := by
  have h1 : ∀ b ∈ q.1.data.toList, b ≠ 32 := fun b hb => ((name_plain h).2 b hb).2
  have hx : index (pickB q) [32] = q.1.data.toList.length := idx_at q.1.data.toList (txt q.2.toNat) [] 32 h1
  unfold Lib.cut
  rw [if_pos (by rw [hx]; omega), hx]
  show ((pickB q).take q.1.data.toList.length, (pickB q).drop (q.1.data.toList.length + 1), true) = _
  unfold pickB
  rw [List.take_left, List.drop_append]
  simp
theorem show_ne {q : Pk} {t : List Pk} : showB (q :: t) ≠ [110, 111, 116, 104, 105, 110, 103] := fun e => by
  have h : (32 : UInt8) ∈ showB (q :: t) := by simp [showB, pickB]
  rw [e] at h
  revert h
  decide
end Go.Proofs.YtnkcjemobljpdaaDoor.Pick
