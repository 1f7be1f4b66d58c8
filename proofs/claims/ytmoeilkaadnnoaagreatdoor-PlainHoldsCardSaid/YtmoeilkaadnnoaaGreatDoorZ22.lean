/-
  Some texts of this claim, one behind the other: ManiNamesM. What each proves, and its condition, stands at its head.
-/
import Derived.Test.YtmoeilkaadnnoaaGreatDoorZ21
import Derived.Sort.KeysCollected
/-
  Plain mathematics of names: a name put into names that rise, once; the names that releases need. No program.
-/
namespace Go.Proofs.YtmoeilkaadnnoaaGreatDoor.Mani
open Go Go.RowKit Go.Lib Go.Proofs.YtmoeilkaadnnoaaGreatDoor.Span Go.Proofs.YtmoeilkaadnnoaaGreatDoor.Need
set_option linter.unusedVariables false
/-- A name more, in its place; 'i': it has been put already. -/
def addF (x : ByteArray) : Bool → List ByteArray → List ByteArray
  | i, [] => if i = true then [] else [x]
  | i, y :: t => if i = true then y :: addF x i t else if nlt x y = true then x :: y :: addF x true t else if x = y then x :: addF x true t else y :: addF x i t
theorem addF_true (x : ByteArray) (l : List ByteArray) : addF x true l = l := by
  induction l with
  | nil => rfl
  | cons y t ih => rw [addF, if_pos rfl, ih]
theorem addF_lt {x y : ByteArray} {t : List ByteArray} (h : nlt x y = true) : addF x false (y :: t) = [x, y] ++ addF x true t := by rw [addF, if_neg (by simp), if_pos h]; rfl
theorem addF_eq {x y : ByteArray} {t : List ByteArray} (h : x = y) : addF x false (y :: t) = [x] ++ addF x true t := by rw [addF, if_neg (by simp), if_neg (by rw [h, nlt_self]; simp), if_pos h]; rfl
theorem addF_gt {x y : ByteArray} {t : List ByteArray} (h : nlt y x = true) : addF x false (y :: t) = [y] ++ addF x false t := by rw [addF, if_neg (by simp), if_neg (by rw [nlt_asymm h]; simp), if_neg (fun e => by rw [e, nlt_self] at h; cases h)]; rfl
theorem drop_cons_at {l : List ByteArray} {i : Nat} {y : ByteArray} (h : l[i]? = some y) : l.drop i = y :: l.drop (i + 1) := by
  obtain ⟨hi, e⟩ := List.getElem?_eq_some_iff.1 h
  rw [List.drop_eq_getElem_cons hi, e]
theorem addF_len (x : ByteArray) (l : List ByteArray) : (addF x false l).length ≤ l.length + 1 := by
  induction l with
  | nil => simp [addF]
  | cons y t ih =>
    rcases tri x y with ⟨h, _⟩ | ⟨_, _, h⟩ | ⟨_, h, _⟩
    · rw [addF_lt h, addF_true]; simp
    · rw [addF_eq (of_decide_eq_true (by rw [← eq_names]; exact h)), addF_true]; simp
    · rw [addF_gt h]; simp; omega
def RisesN (l : List ByteArray) : Prop := l.Pairwise fun x y => nlt x y = true
theorem addF_mem (x : ByteArray) (l : List ByteArray) {z : ByteArray} : z ∈ addF x false l ↔ z = x ∨ z ∈ l := by
  induction l with
  | nil => simp [addF]
  | cons y t ih =>
    rcases tri x y with ⟨h, _⟩ | ⟨_, _, h⟩ | ⟨_, h, _⟩
    · rw [addF_lt h, addF_true]; simp
    · have e : x = y := of_decide_eq_true (by rw [← eq_names]; exact h)
      rw [addF_eq e, addF_true]
      subst e
      simp
    · rw [addF_gt h, List.singleton_append, List.mem_cons, List.mem_cons, ih]
      constructor
      · rintro (h | h | h)
        · exact .inr (.inl h)
        · exact .inl h
        · exact .inr (.inr h)
      · rintro (h | h | h)
        · exact .inr (.inl h)
        · exact .inl h
        · exact .inr (.inr h)
theorem addF_rises (x : ByteArray) {l : List ByteArray} (hl : RisesN l) : RisesN (addF x false l) := by
  induction l with
  | nil => exact List.pairwise_singleton _ _
  | cons y t ih =>
    obtain ⟨h1, h2⟩ := List.pairwise_cons.1 hl
    rcases tri x y with ⟨h, _⟩ | ⟨_, _, h⟩ | ⟨_, h, _⟩
    · rw [addF_lt h, addF_true]
      refine List.pairwise_cons.2 ⟨fun z hz => ?_, hl⟩
      rcases List.mem_cons.1 hz with rfl | hz
      · exact h
      · exact nlt_trans h (h1 z hz)
    · rw [addF_eq (of_decide_eq_true (by rw [← eq_names]; exact h)), addF_true]
      have e : x = y := of_decide_eq_true (by rw [← eq_names]; exact h)
      subst e
      exact hl
    · rw [addF_gt h]
      refine List.pairwise_cons.2 ⟨fun z hz => ?_, ih h2⟩
      rcases (addF_mem x t).1 hz with rfl | hz
      · exact h
      · exact h1 z hz
/-- Names put one by one. -/
def foldN (acc : List ByteArray) : List ByteArray := acc.foldl (fun o x => addF x false o) []
theorem foldN_snoc (acc : List ByteArray) (x : ByteArray) : foldN (acc ++ [x]) = addF x false (foldN acc) := by simp [foldN, List.foldl_append]
theorem fold_len (acc : List ByteArray) : ∀ (o : List ByteArray), (acc.foldl (fun o x => addF x false o) o).length ≤ o.length + acc.length := by
  induction acc with
  | nil => intro o; simp
  | cons x t ih =>
    intro o
    have h1 := ih (addF x false o)
    have h2 := addF_len x o
    simp only [List.foldl_cons, List.length_cons]
    omega
theorem foldN_len (acc : List ByteArray) : (foldN acc).length ≤ acc.length := by have := fold_len acc []; simpa [foldN] using this
theorem fold_ok (acc : List ByteArray) : ∀ (o : List ByteArray), RisesN o → RisesN (acc.foldl (fun o x => addF x false o) o) ∧ ∀ z, z ∈ acc.foldl (fun o x => addF x false o) o ↔ z ∈ o ∨ z ∈ acc := by
  induction acc with
  | nil => intro o h; exact ⟨h, fun z => by simp⟩
  | cons x t ih =>
    intro o h
    obtain ⟨h1, h2⟩ := ih (addF x false o) (addF_rises x h)
    refine ⟨h1, fun z => ?_⟩
    rw [List.foldl_cons, h2, addF_mem, List.mem_cons]
    constructor
    · rintro ((h | h) | h)
      · exact .inr (.inl h)
      · exact .inl h
      · exact .inr (.inr h)
    · rintro (h | h | h)
      · exact .inl (.inr h)
      · exact .inl (.inl h)
      · exact .inr h
theorem foldN_rises (acc : List ByteArray) : RisesN (foldN acc) := (fold_ok acc [] List.Pairwise.nil).1
theorem foldN_mem (acc : List ByteArray) {z : ByteArray} : z ∈ foldN acc ↔ z ∈ acc := by
  have := (fold_ok acc [] List.Pairwise.nil).2 z
  simpa [foldN] using this
/-- The names of needs, of releases. -/
def namesS (s : List Nd) : List ByteArray := s.map Prod.fst
def allN (l : List Rl) : List ByteArray := l.flatMap fun q => namesS q.2
theorem allN_snoc (l : List Rl) (q : Rl) : allN (l ++ [q]) = allN l ++ namesS q.2 := by simp [allN]
theorem namesS_take {s : List Nd} {k : Nat} {y : Nd} (h : s[k]? = some y) : namesS (s.take (k + 1)) = namesS (s.take k) ++ [y.1] := by
  unfold namesS
  rw [take_snoc' s k y h, List.map_append]
  rfl
theorem allN_len {l : List Rl} (h : ∀ q ∈ l, q.2.length ≤ 40) : (allN l).length ≤ 40 * l.length := by
  induction l with
  | nil => simp [allN]
  | cons q t ih =>
    have h1 := h q (by simp)
    have h2 := ih fun q hq => h q (by simp [hq])
    have e : allN (q :: t) = namesS q.2 ++ allN t := by simp [allN]
    rw [e, List.length_append, List.length_cons]
    unfold namesS
    rw [List.length_map]
    omega
def bytesOf (x : ByteArray) : List UInt8 := x.data.toList
theorem bytesOf_inj {x y : ByteArray} (h : bytesOf x = bytesOf y) : x = y := by
  unfold bytesOf at h
  exact ByteArray.ext (Array.toList_inj.1 h)
theorem bytes_lt {x y : ByteArray} (h : nlt x y = true) : bytesOf x < bytesOf y := by
  have := nlt_iff.1 h
  rw [Lib.toList_data, Lib.toList_data] at this
  exact this
/-- The set of names as a map's datum. -/
def setN (acc : List ByteArray) : DataW Unit := Maps.setOf (.agg []) (acc.map fun x => Lit.string (bytesOf x))
theorem setN_snoc (acc : List ByteArray) (x : ByteArray) : setN (acc ++ [x]) = (setN acc).put (.string (bytesOf x)) (.agg []) := by
  unfold setN
  rw [List.map_append, List.map_cons, List.map_nil, Maps.setOf_snoc]
theorem key_str (x : List UInt8) : WideAt.IsKeyLit (.string x) := by first | exact trivial | simp [WideAt.IsKeyLit] | constructor
theorem has_setN (acc : List ByteArray) (x : List UInt8) : Maps.has (setN acc) (.string x) = true ↔ ∃ y ∈ acc, bytesOf y = x := by
  unfold setN
  rw [Maps.has_setOf _ _ _ (fun k hk => by obtain ⟨y, _, rfl⟩ := List.mem_map.1 hk; exact key_str _), List.any_eq_true]
  constructor
  · rintro ⟨k, hk, hs⟩
    obtain ⟨y, hy, rfl⟩ := List.mem_map.1 hk
    exact ⟨y, hy, by simpa [Lit.sameKey] using hs⟩
  · rintro ⟨y, hy, rfl⟩
    exact ⟨_, List.mem_map.2 ⟨y, hy, rfl⟩, by simp [Lit.sameKey]⟩
/-- What the sorted keys of that map are. -/
theorem sorted_names {P : Program} {k : TypeId} {R : Value → Option (DataW Unit × List MemPlace)} {w : World} {b n : Nat} {acc : List ByteArray} (hown : w.ownsMap P k R b n (setN acc)) (hk : P.underlying k = some .string) {ss : List (List UInt8)} (hp : ss.Perm (strKeys (setN acc))) :
    ss.mergeSort (fun x y => decide (x ≤ y)) = (foldN acc).map bytesOf := by
  have hr := foldN_rises acc
  have hlt : ((foldN acc).map bytesOf).Pairwise (fun x y => x < y) := List.pairwise_map.2 (hr.imp fun h => bytes_lt h)
  have hC : Collected (setN acc) (fun _ => false) ((foldN acc).map bytesOf) := ⟨hlt.imp fun {a b} h e => by rw [e] at h; exact List.lt_irrefl _ h, fun x => by
    rw [has_setN, List.mem_map]
    constructor
    · rintro ⟨y, hy, e⟩
      exact ⟨⟨y, (foldN_mem acc).1 hy, e⟩, rfl⟩
    · rintro ⟨⟨y, hy, e⟩, _⟩
      exact ⟨y, (foldN_mem acc).2 hy, e⟩⟩
  have hP := hC.perm hown (Maps.string_keyed hk) hk fun _ => rfl
  have h1 := mergeSort_of_perm (hp.trans hP.symm)
  refine h1.trans ?_
  refine List.mergeSort_of_pairwise (hlt.imp fun h => ?_)
  simp only [leB, decide_eq_true_eq]
  exact List.le_of_lt h
end Go.Proofs.YtmoeilkaadnnoaaGreatDoor.Mani
