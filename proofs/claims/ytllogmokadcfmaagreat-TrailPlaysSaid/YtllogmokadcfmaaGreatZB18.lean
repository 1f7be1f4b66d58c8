/-
  Some texts of this claim, one behind the other: ManiNamesM. What each proves, and its condition, stands at its head.
-/
import Derived.Test.YtllogmokadcfmaaGreatZB16
import Derived.Sort.KeysCollected
/-
  Plain mathematics of names: a name put into names that rise, once; the names that releases need. No program.
-/
namespace Go.Proofs.YtllogmokadcfmaaGreat.Mani
open Go Go.RowKit Go.Lib Go.Proofs.YtllogmokadcfmaaGreat.Span Go.Proofs.YtllogmokadcfmaaGreat.Need
set_option linter.unusedVariables false
def addF (x : ByteArray) : Bool → List ByteArray → List ByteArray
  | i, [] => if i = true then [] else [x]
  | i, y :: t => if i = true then y :: addF x i t else if nlt x y = true then x :: y :: addF x true t else if x = y then x :: addF x true t else y :: addF x i t
theorem addF_true (x : ByteArray) (l : List ByteArray) : addF x true l = l := by
  induction l with
  | nil => rfl
  | cons y t ih => rw [addF, if_pos rfl, ih]
theorem addF_lt {x y : ByteArray} {t : List ByteArray} (h : nlt x y = true) : addF x false (y :: t) = [x, y] ++ addF x true t := by rw [addF, if_neg (by simp), if_pos h]; rfl
theorem addF_eq {x y : ByteArray} {t : List ByteArray} (h : x = y) : addF x false (y :: t) = [x] ++ addF x true t := by rw [addF, if_neg (by simp), if_neg (by rw [h, nlt_self]; simp), if_pos h]; rfl
theorem addF_gt {x y : ByteArray} {t : List ByteArray} (h : nlt y x = true) : addF x false (y :: t) = [y] ++ addF x false t := by rw [addF, if_neg (by simp), if_neg (by rw [nlt_asymm h]; simp), if_neg (fun e => by rw [e, nlt_self] at h; cases h)]; rfl
def RisesN (l : List ByteArray) : Prop := l.Pairwise fun x y => nlt x y = true
theorem addF_mem (x : ByteArray) (l : List ByteArray) {z : ByteArray} : z ∈ addF x false l ↔ z = x ∨ z ∈ l := by
  induction l with
  | nil => simp [addF]
  | cons y t ih =>
    rcases tri x y with ⟨h, _⟩ | ⟨_, _, h⟩ | ⟨_, h, _⟩
    · rw [addF_lt h, addF_true]; simp
    · have e : x = y := of_decide_eq_true (by rw [← eq_names]; exact h)
      rw [addF_eq e, addF_true]
      subst e
      simp
    · rw [addF_gt h, List.singleton_append, List.mem_cons, List.mem_cons, ih]
      constructor
      · rintro (h | h | h)
        · exact .inr (.inl h)
        · exact .inl h
        · exact .inr (.inr h)
      · rintro (h | h | h)
        · exact .inr (.inl h)
        · exact .inl h
        · exact .inr (.inr h)
theorem addF_rises (x : ByteArray) {l : List ByteArray} (hl : RisesN l) : RisesN (addF x false l) := by
  induction l with
  | nil => exact List.pairwise_singleton _ _
  | cons y t ih =>
    obtain ⟨h1, h2⟩ := List.pairwise_cons.1 hl
    rcases tri x y with ⟨h, _⟩ | ⟨_, _, h⟩ | ⟨_, h, _⟩
    · rw [addF_lt h, addF_true]
      refine List.pairwise_cons.2 ⟨fun z hz => ?_, hl⟩
      rcases List.mem_cons.1 hz with rfl | hz
      · exact h
      · exact nlt_trans h (h1 z hz)
    · rw [addF_eq (of_decide_eq_true (by rw [← eq_names]; exact h)), addF_true]
      have e : x = y := of_decide_eq_true (by rw [← eq_names]; exact h)
      subst e
      exact hl
    · rw [addF_gt h]
      refine List.pairwise_cons.2 ⟨fun z hz => ?_, ih h2⟩
      rcases (addF_mem x t).1 hz with rfl | hz
      · exact h
      · exact h1 z hz
def foldN (acc : List ByteArray) : List ByteArray := acc.foldl (fun o x => addF x false o) []
theorem fold_ok (acc : List ByteArray) : ∀ (o : List ByteArray), RisesN o → RisesN (acc.foldl (fun o x => addF x false o) o) ∧ ∀ z, z ∈ acc.foldl (fun o x => addF x false o) o ↔ z ∈ o ∨ z ∈ acc := by
  induction acc with
  | nil => intro o h; exact ⟨h, fun z => by simp⟩
  | cons x t ih =>
    intro o h
    obtain ⟨h1, h2⟩ := ih (addF x false o) (addF_rises x h)
    refine ⟨h1, fun z => ?_⟩
    rw [List.foldl_cons, h2, addF_mem, List.mem_cons]
    constructor
    · rintro ((h | h) | h)
      · exact .inr (.inl h)
      · exact .inl h
      · exact .inr (.inr h)
    · rintro (h | h | h)
      · exact .inl (.inr h)
      · exact .inl (.inl h)
      · exact .inr h
theorem foldN_rises (acc : List ByteArray) : RisesN (foldN acc) := (fold_ok acc [] List.Pairwise.nil).1
theorem foldN_mem (acc : List ByteArray) {z : ByteArray} : z ∈ foldN acc ↔ z ∈ acc := by
  have := (fold_ok acc [] List.Pairwise.nil).2 z
  simpa [foldN] using this
def namesS (s : List Nd) : List ByteArray := s.map Prod.fst
def allN (l : List Rl) : List ByteArray := l.flatMap fun q => namesS q.2
def bytesOf (x : ByteArray) : List UInt8 := x.data.toList
theorem bytesOf_inj {x y : ByteArray} (h : bytesOf x = bytesOf y) : x = y := by
  unfold bytesOf at h
  exact ByteArray.ext (Array.toList_inj.1 h)
theorem bytes_lt {x y : ByteArray} (h : nlt x y = true) : bytesOf x < bytesOf y := by
  have := nlt_iff.1 h
  rw [Lib.toList_data, Lib.toList_data] at this
  exact this
theorem key_str (x : List UInt8) : WideAt.IsKeyLit (.string x) := by first | exact trivial | simp [WideAt.IsKeyLit] | constructor
end Go.Proofs.YtllogmokadcfmaaGreat.Mani
