/-
  Some texts of this claim, one behind the other: FitBfs. What each proves, and its condition, stands at its head.
-/
import Derived.Test.YtjbjdoioallpkaaDoorZ30
import Derived.Test.YtjbjdoioallpkaaDoorZ32
/-
  Plain mathematics of the program's way to what picks need: names, one by one, in the order in which they are found; sorted, they are the list that rises. No program.
-/
namespace Go.Proofs.YtjbjdoioallpkaaDoor.Fit
open Go Go.RowKit Go.Lib Go.Sort Go.Proofs.YtjbjdoioallpkaaDoor.Span Go.Proofs.YtjbjdoioallpkaaDoor.Need Go.Proofs.YtjbjdoioallpkaaDoor.Mani Go.Proofs.YtjbjdoioallpkaaDoor.Wire Go.Proofs.YtjbjdoioallpkaaDoor.Depot Go.Proofs.YtjbjdoioallpkaaDoor.Index Go.Proofs.YtjbjdoioallpkaaDoor.Reach Go.Proofs.YtjbjdoioallpkaaDoor.Pick
set_option linter.unusedVariables false
section
variable {X : List Kn} {root : List Nd} {l : List Pk} {L : List ByteArray} {d : Nat}
/-- The search: L is found, of which the first d were gone through. -/
structure BfsF (X : List Kn) (root : List Nd) (l : List Pk) (L : List ByteArray) (d : Nat) : Prop where
  nodup : L.Nodup
  may : ∀ z, z ∈ L → MayF X root l z
  has : ∀ z, z ∈ namesS root → z ∈ L
  done : ∀ (i : Nat) (a : ByteArray), i < d → L[i]? = some a → ∀ z, z ∈ Fit.asksF X l a → z ∈ L
theorem bfsF_start (X : List Kn) (root : List Nd) (l : List Pk) : BfsF X root l (newF [] (namesS root)) 0 := by
  have hn := newF_nodup (acc := []) List.Pairwise.nil (namesS root)
  have hm := fun z => newF_mem (acc := []) (z := z) List.Pairwise.nil (namesS root)
  simp only [List.nil_append] at hn hm
  exact ⟨hn, fun z hz => .root (by simpa using (hm z).1 hz), fun z hz => (hm z).2 (.inr hz), fun i a hi => by omega⟩
theorem BfsF.step {a : ByteArray} (h : BfsF X root l L d) (ha : L[d]? = some a) : BfsF X root l (L ++ newF L (Fit.asksF X l a)) (d + 1) := by
  have hm := fun z => newF_mem (z := z) h.nodup (Fit.asksF X l a)
  have hd : d < L.length := (List.getElem?_eq_some_iff.1 ha).1
  refine ⟨newF_nodup h.nodup _, fun z hz => ?_, fun z hz => (hm z).2 (.inl (h.has z hz)), fun i b hi hb z hz => ?_⟩
  · rcases (hm z).1 hz with g | g
    · exact h.may z g
    · exact .ask (h.may a (List.mem_of_getElem? ha)) g
  · rw [List.getElem?_append_left (by omega)] at hb
    rcases Nat.lt_or_ge i d with g | g
    · exact (hm z).2 (.inl (h.done i b g hb z hz))
    · have e : i = d := by omega
      subst e
      rw [ha] at hb
      injection hb with hb
      subst hb
      exact (hm z).2 (.inr hz)
theorem BfsF.pass {a : ByteArray} (h : BfsF X root l L d) (ha : L[d]? = some a) (hn : getP l a = none) : BfsF X root l L (d + 1) := by
  have := h.step ha
  rw [asks_none hn] at this
  have e : newF L [] = [] := rfl
  rw [e, List.append_nil] at this
  exact this
theorem BfsF.go {a : ByteArray} {v : Int} (h : BfsF X root l L d) (ha : L[d]? = some a) (hv : getP l a = some v) : BfsF X root l (L ++ newF L (namesS (needsX X a v))) (d + 1) := by
  have := h.step ha
  rwa [asks_some hv] at this
theorem BfsF.len (h : BfsF X root l L d) (hs : SetX X) (hr : root.length ≤ 40) (hl : l.length ≤ 60) : L.length ≤ 400 := by
  have h1 := (foldN_perm h.nodup).length_eq
  have h2 := len_may hs hr hl (foldN_rises L) fun z hz => h.may z ((foldN_mem L).1 hz)
  omega
theorem BfsF.perm (h : BfsF X root l L L.length) : L.Perm (neededX X root l) := by
  have hr : ReachesF X root l (foldN L) := by
    refine ⟨foldN_rises L, fun z => ?_⟩
    rw [foldN_mem]
    refine ⟨h.may z, fun hz => ?_⟩
    induction hz with
    | root hr => exact h.has _ hr
    | ask _ hk ih =>
      obtain ⟨i, hi, e⟩ := List.getElem_of_mem ih
      exact h.done i _ hi (List.getElem?_eq_some_iff.2 ⟨hi, e⟩) _ hk
  rw [← hr.unique (needed_ok X root l)]
  exact (foldN_perm h.nodup).symm
/-- The found names, sorted by the library. -/
theorem BfsF.sorted (h : BfsF X root l L L.length) : (L.map bytesOf).mergeSort (fun x y => decide (x ≤ y)) = (neededX X root l).map bytesOf := by
  have hlt : ((neededX X root l).map bytesOf).Pairwise (fun x y => x < y) := List.pairwise_map.2 ((needed_ok X root l).1.imp fun h => bytes_lt h)
  have h1 := mergeSort_of_perm (h.perm.map bytesOf)
  refine h1.trans ?_
  refine List.mergeSort_of_pairwise (hlt.imp fun h => ?_)
  simp only [leB, decide_eq_true_eq]
  exact List.le_of_lt h
theorem needs_fine {a : ByteArray} {v : Int} (hf : FineX X) {q : Nd} (hq : q ∈ needsX X a v) : q.1.size ≤ 100 := by
  unfold needsX relX at hq
  cases g : getR (getX X a).1 v with
  | none => rw [g] at hq; cases hq
  | some r =>
    rw [g] at hq
    exact (((hf.get a).2 r (getR_mem g).1).2 q hq).1
theorem mayF_short {z : ByteArray} (hf : FineX X) (hr : ∀ q ∈ root, q.1.size ≤ 100) (hz : MayF X root l z) : z.size ≤ 100 := by
  cases hz with
  | root hm =>
    obtain ⟨q, hq, rfl⟩ := List.mem_map.1 hm
    exact hr q hq
  | ask _ hk =>
    obtain ⟨v, hv, hz⟩ := asks_pick hk
    obtain ⟨q, hq, rfl⟩ := List.mem_map.1 hz
    exact needs_fine hf hq
end
end Go.Proofs.YtjbjdoioallpkaaDoor.Fit
