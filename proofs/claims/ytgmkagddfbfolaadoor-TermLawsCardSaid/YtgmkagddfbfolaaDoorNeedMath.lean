/-
  Plain mathematics of needs: names in their order, which needs may be, what is needed of a name, what both need. No program.
-/
import Derived.Test.YtgmkagddfbfolaaDoorSpanSift
import Derived.Test.YtgmkagddfbfolaaDoorLabelText
import Derived.Sort.Walk0
namespace Go.Proofs.YtgmkagddfbfolaaDoor.Need
open Go.RowKit Go.Lib Go.Proofs.YtgmkagddfbfolaaDoor.Span
open Go.Proofs.YtgmkagddfbfolaaDoor.Label (runes fitL allOk runes_end)
set_option linter.unusedVariables false
/-- A need: its name, its set. -/
abbrev Nd := ByteArray × List S
/-- One name stands ahead of another. -/
def nlt (a b : ByteArray) : Bool := Op.bytesLess a.toList b.toList
theorem nlt_iff {a b : ByteArray} : nlt a b = true ↔ a.toList < b.toList := by unfold nlt; rw [bytesLess_eq]; simp
theorem toList_inj {a b : ByteArray} (h : a.toList = b.toList) : a = b := by
  rw [Lib.toList_data, Lib.toList_data] at h
  exact ByteArray.ext (Array.toList_inj.1 h)
theorem eq_names (a b : ByteArray) : (a.toList == b.toList) = decide (a = b) := by
  rw [Bool.eq_iff_iff]
  simp only [beq_iff_eq, decide_eq_true_eq]
  exact ⟨toList_inj, fun h => by rw [h]⟩
theorem nlt_self (a : ByteArray) : nlt a a = false := by
  cases h : nlt a a with
  | false => rfl
  | true => exact absurd (nlt_iff.1 h) (List.lt_irrefl _)
theorem nlt_trans {a b c : ByteArray} (h : nlt a b = true) (h' : nlt b c = true) : nlt a c = true := nlt_iff.2 (List.lt_trans (nlt_iff.1 h) (nlt_iff.1 h'))
theorem nlt_asymm {a b : ByteArray} (h : nlt a b = true) : nlt b a = false := by
  cases h' : nlt b a with
  | false => rfl
  | true => exact absurd (nlt_trans h h') (by rw [nlt_self]; simp)
theorem nlt_ne {a b : ByteArray} (h : nlt a b = true) : a ≠ b := by
  rintro rfl
  rw [nlt_self] at h
  cases h
theorem nlt_tri {a b : ByteArray} (h : nlt a b = false) (h' : nlt b a = false) : a = b := by
  have h1 : ¬ a.toList < b.toList := fun g => by rw [nlt_iff.2 g] at h; cases h
  have h2 : ¬ b.toList < a.toList := fun g => by rw [nlt_iff.2 g] at h'; cases h'
  exact toList_inj (List.le_antisymm (List.not_lt.1 h2) (List.not_lt.1 h1))
theorem nlt_empty {a : ByteArray} (h : fitL (runes a 0) = true) : nlt ByteArray.empty a = true := by
  have hs : 0 < a.size := by
    rcases Nat.eq_zero_or_pos a.size with h0 | h0
    · rw [runes_end a 0 (by omega)] at h
      simp [fitL] at h
    · exact h0
  unfold nlt
  have hl : a.toList ≠ [] := by
    rw [Lib.toList_data]
    intro e
    have : a.size = 0 := by rw [Lib.size_eq, e]; rfl
    omega
  have he : ByteArray.empty.toList = [] := by rw [Lib.toList_data]; rfl
  rw [he]
  cases h' : a.toList with
  | nil => exact absurd h' hl
  | cons x t => rfl
/-- Needs that may be, behind a name. -/
def okFrom : ByteArray → List Nd → Bool
  | _, [] => true
  | a, q :: t => (fitL (runes q.1 0) && nlt a q.1 && (isSet (-1) q.2 && decide (q.2.length ≤ 6))) && okFrom q.1 t
def okS (l : List Nd) : Bool := okFrom ByteArray.empty l && decide (l.length ≤ 6)
/-- Names rise. -/
def Rises (l : List Nd) : Prop := l.Pairwise fun x y => nlt x.1 y.1 = true
theorem ok_all {l : List Nd} : ∀ {a : ByteArray}, okFrom a l = true → ∀ q ∈ l, nlt a q.1 = true ∧ fitL (runes q.1 0) = true ∧ isSet (-1) q.2 = true ∧ q.2.length ≤ 6 := by
  induction l with
  | nil => intro a _ q hq; cases hq
  | cons x t ih =>
    intro a h q hq
    simp only [okFrom, Bool.and_eq_true, decide_eq_true_eq] at h
    obtain ⟨⟨⟨h1, h2⟩, h3, h4⟩, h5⟩ := h
    rcases List.mem_cons.1 hq with rfl | hq
    · exact ⟨h2, h1, h3, h4⟩
    · obtain ⟨g1, g2⟩ := ih h5 q hq
      exact ⟨nlt_trans h2 g1, g2⟩
theorem ok_rises {l : List Nd} : ∀ {a : ByteArray}, okFrom a l = true → Rises l := by
  induction l with
  | nil => intro a _; exact List.Pairwise.nil
  | cons x t ih =>
    intro a h
    simp only [okFrom, Bool.and_eq_true, decide_eq_true_eq] at h
    exact List.pairwise_cons.2 ⟨fun q hq => (ok_all h.2 q hq).1, ih h.2⟩
theorem okS_parts {l : List Nd} (h : okS l = true) : okFrom ByteArray.empty l = true ∧ l.length ≤ 6 ∧ Rises l ∧ ∀ q ∈ l, isSet (-1) q.2 = true ∧ q.2.length ≤ 6 := by
  simp only [okS, Bool.and_eq_true, decide_eq_true_eq] at h
  exact ⟨h.1, h.2, ok_rises h.1, fun q hq => (ok_all h.1 q hq).2.2⟩
/-- What is needed of a name. -/
def findS : List Nd → ByteArray → Option (List S)
  | [], _ => none
  | q :: t, n => if q.1 = n then some q.2 else findS t n
theorem find_none {l : List Nd} {n : ByteArray} (h : ∀ q ∈ l, q.1 ≠ n) : findS l n = none := by
  induction l with
  | nil => rfl
  | cons x t ih => rw [findS, if_neg (h x (by simp))]; exact ih fun q hq => h q (by simp [hq])
theorem find_above {l : List Nd} {n : ByteArray} (h : ∀ q ∈ l, nlt n q.1 = true) : findS l n = none := find_none fun q hq e => by
  have := h q hq
  rw [e, nlt_self] at this
  cases this
theorem find_mem {l : List Nd} (hr : Rises l) {q : Nd} (hq : q ∈ l) : findS l q.1 = some q.2 := by
  induction l with
  | nil => cases hq
  | cons x t ih =>
    obtain ⟨h1, h2⟩ := List.pairwise_cons.1 hr
    rcases List.mem_cons.1 hq with rfl | hq
    · rw [findS, if_pos rfl]
    · rw [findS, if_neg (nlt_ne (h1 q hq)), ih h2 hq]
theorem find_in {l : List Nd} {n : ByteArray} {s : List S} (h : findS l n = some s) : (n, s) ∈ l := by
  induction l with
  | nil => cases h
  | cons x t ih =>
    rw [findS] at h
    split at h
    · rename_i e
      injection h with h
      subst e h
      simp
    · exact List.mem_cons_of_mem _ (ih h)
theorem find_drop {l : List Nd} {n : ByteArray} {i : Nat} {q : Nd} (h : l[i]? = some q) : findS (l.drop i) n = if q.1 = n then some q.2 else findS (l.drop (i + 1)) n := by
  obtain ⟨hi, e⟩ := List.getElem?_eq_some_iff.1 h
  rw [List.drop_eq_getElem_cons hi, e]
  rfl
theorem ok_drop {l : List Nd} {a : ByteArray} {i : Nat} {q : Nd} (h : l[i]? = some q) : okFrom a (l.drop i) = ((fitL (runes q.1 0) && nlt a q.1 && (isSet (-1) q.2 && decide (q.2.length ≤ 6))) && okFrom q.1 (l.drop (i + 1))) := by
  obtain ⟨hi, e⟩ := List.getElem?_eq_some_iff.1 h
  rw [List.drop_eq_getElem_cons hi, e]
  rfl
/-- What both need. -/
noncomputable def mergeS : List Nd → List Nd → List Nd
  | [], b => b
  | x :: a, [] => x :: a
  | x :: a, y :: b =>
    if nlt x.1 y.1 = true then x :: mergeS a (y :: b)
    else if nlt y.1 x.1 = true then y :: mergeS (x :: a) b
    else (x.1, meetS x.2 y.2) :: mergeS a b
  termination_by a b => a.length + b.length
theorem merge_nil_left (b : List Nd) : mergeS [] b = b := by rw [mergeS]
theorem merge_nil (a : List Nd) : mergeS a [] = a := by cases a <;> rw [mergeS]
theorem merge_lt {x y : Nd} {a b : List Nd} (h : nlt x.1 y.1 = true) : mergeS (x :: a) (y :: b) = x :: mergeS a (y :: b) := by rw [mergeS, if_pos h]
theorem merge_gt {x y : Nd} {a b : List Nd} (h : nlt y.1 x.1 = true) : mergeS (x :: a) (y :: b) = y :: mergeS (x :: a) b := by rw [mergeS, if_neg (by rw [nlt_asymm h]; simp), if_pos h]
theorem merge_eq {x y : Nd} {a b : List Nd} (h : x.1 = y.1) : mergeS (x :: a) (y :: b) = (x.1, meetS x.2 y.2) :: mergeS a b := by
  rw [mergeS, if_neg (by rw [h, nlt_self]; simp), if_neg (by rw [h, nlt_self]; simp)]
/-- One need more, in its place; 'i': it has been put already. -/
noncomputable def putN (n : Nd) : Bool → List Nd → List Nd
  | i, [] => if i = true then [] else [n]
  | i, x :: t => if i = false ∧ nlt n.1 x.1 = true then n :: x :: putN n true t else if n.1 = x.1 then (n.1, meetS x.2 n.2) :: putN n true t else x :: putN n i t
theorem put_true {y : Nd} {a : List Nd} (h : ∀ q ∈ a, nlt y.1 q.1 = true) : putN y true a = a := by
  induction a with
  | nil => rfl
  | cons x t ih =>
    rw [putN, if_neg (by simp), if_neg (nlt_ne (h x (by simp))), ih fun q hq => h q (by simp [hq])]
theorem put_mem {y : Nd} {a : List Nd} : ∀ {i : Bool}, ∀ q ∈ putN y i a, q.1 = y.1 ∨ q ∈ a := by
  induction a with
  | nil =>
    intro i q hq
    rw [putN] at hq
    split at hq
    · cases hq
    · left; rw [List.mem_singleton.1 hq]
  | cons x t ih =>
    intro i q hq
    rw [putN] at hq
    split at hq
    · rcases List.mem_cons.1 hq with rfl | hq
      · exact .inl rfl
      · rcases List.mem_cons.1 hq with rfl | hq
        · simp
        · rcases ih q hq with h | h
          · exact .inl h
          · simp [h]
    · split at hq
      · rcases List.mem_cons.1 hq with rfl | hq
        · exact .inl rfl
        · rcases ih q hq with h | h
          · exact .inl h
          · simp [h]
      · rcases List.mem_cons.1 hq with rfl | hq
        · simp
        · rcases ih q hq with h | h
          · exact .inl h
          · simp [h]
theorem put_rises {y : Nd} {a : List Nd} (h : Rises a) : Rises (putN y false a) := by
  induction a with
  | nil => exact List.pairwise_singleton _ _
  | cons x t ih =>
    obtain ⟨h1, h2⟩ := List.pairwise_cons.1 h
    rw [putN]
    by_cases hl : nlt y.1 x.1 = true
    · rw [if_pos ⟨rfl, hl⟩, put_true fun q hq => nlt_trans hl (h1 q hq)]
      exact List.pairwise_cons.2 ⟨fun q hq => by
        rcases List.mem_cons.1 hq with rfl | hq
        · exact hl
        · exact nlt_trans hl (h1 q hq), h⟩
    · rw [if_neg (fun g => hl g.2)]
      by_cases he : y.1 = x.1
      · rw [if_pos he, put_true fun q hq => by rw [he]; exact h1 q hq]
        exact List.pairwise_cons.2 ⟨fun q hq => by rw [he]; exact h1 q hq, h2⟩
      · rw [if_neg he]
        have hx : nlt x.1 y.1 = true := by
          cases g : nlt x.1 y.1 with
          | true => rfl
          | false => exact absurd (nlt_tri (by simpa using hl) g) he
        exact List.pairwise_cons.2 ⟨fun q hq => by
          rcases put_mem q hq with g | g
          · rw [g]; exact hx
          · exact h1 q g, ih h2⟩
theorem merge_put {y : Nd} {b : List Nd} (hb : ∀ q ∈ b, nlt y.1 q.1 = true) : ∀ {a : List Nd}, Rises a → mergeS a (y :: b) = mergeS (putN y false a) b := by
  have key : ∀ (z : Nd) (c : List Nd), (z.1 = y.1 ∨ nlt z.1 y.1 = true) → mergeS (z :: c) b = z :: mergeS c b := by
    intro z c hz
    cases b with
    | nil => rw [merge_nil, merge_nil]
    | cons x t =>
      have hx := hb x (by simp)
      refine merge_lt ?_
      rcases hz with hz | hz
      · rw [hz]; exact hx
      · exact nlt_trans hz hx
  intro a
  induction a with
  | nil => intro _; rw [merge_nil_left, putN, if_neg (by simp), key y [] (.inl rfl), merge_nil_left]
  | cons x t ih =>
    intro h
    obtain ⟨h1, h2⟩ := List.pairwise_cons.1 h
    rw [putN]
    by_cases hl : nlt y.1 x.1 = true
    · rw [if_pos ⟨rfl, hl⟩, put_true fun q hq => nlt_trans hl (h1 q hq), merge_gt hl, key y _ (.inl rfl)]
    · rw [if_neg (fun g => hl g.2)]
      by_cases he : y.1 = x.1
      · rw [if_pos he, put_true fun q hq => by rw [he]; exact h1 q hq, merge_eq he.symm, key (y.1, meetS x.2 y.2) _ (.inl rfl), he]
      · rw [if_neg he]
        have hx : nlt x.1 y.1 = true := by
          cases g : nlt x.1 y.1 with
          | true => rfl
          | false => exact absurd (nlt_tri (by simpa using hl) g) he
        rw [merge_lt hx, ih h2, key x _ (.inr hx)]
theorem fold_merge {b : List Nd} : ∀ {a : List Nd}, Rises a → Rises b → b.foldl (fun l n => putN n false l) a = mergeS a b := by
  induction b with
  | nil => intro a _ _; rw [merge_nil]; rfl
  | cons y b ih =>
    intro a ha hb
    obtain ⟨h1, h2⟩ := List.pairwise_cons.1 hb
    rw [List.foldl_cons, ih (put_rises ha) h2, merge_put h1 ha]
theorem fold_mem {b : List Nd} : ∀ {a : List Nd}, ∀ q ∈ b.foldl (fun l n => putN n false l) a, q ∈ a ∨ ∃ y ∈ b, q.1 = y.1 := by
  induction b with
  | nil => intro a q hq; exact .inl hq
  | cons y b ih =>
    intro a q hq
    rw [List.foldl_cons] at hq
    rcases ih q hq with h | ⟨z, hz, h⟩
    · rcases put_mem q h with g | g
      · exact .inr ⟨y, by simp, g⟩
      · exact .inl g
    · exact .inr ⟨z, by simp [hz], h⟩
/-- A need that is met while the next one is put is one of the first ones. -/
theorem fold_old {a b : List Nd} (hb : Rises b) {k : Nat} {y q : Nd} (hk : b[k]? = some y) (hq : q ∈ (b.take k).foldl (fun l n => putN n false l) a) (he : q.1 = y.1) : q ∈ a := by
  rcases fold_mem q hq with h | ⟨z, hz, h⟩
  · exact h
  · have hy : y ∈ b.drop k := by
      obtain ⟨hi, e⟩ := List.getElem?_eq_some_iff.1 hk
      rw [List.drop_eq_getElem_cons hi, e]
      simp
    have hb' : Rises (b.take k ++ b.drop k) := by rw [List.take_append_drop]; exact hb
    have := (List.pairwise_append.1 hb').2.2 z hz y hy
    rw [← h, he, nlt_self] at this
    cases this
theorem merge_mem {a b : List Nd} : ∀ q ∈ mergeS a b, (∃ x ∈ a, q.1 = x.1) ∨ ∃ y ∈ b, q.1 = y.1 := by
  fun_induction mergeS a b with
  | case1 b => intro q hq; exact .inr ⟨q, hq, rfl⟩
  | case2 x a => intro q hq; exact .inl ⟨q, hq, rfl⟩
  | case3 x a y b h ih =>
    intro q hq
    rcases List.mem_cons.1 hq with rfl | hq
    · exact .inl ⟨q, by simp, rfl⟩
    · rcases ih q hq with ⟨z, hz, e⟩ | ⟨z, hz, e⟩
      · exact .inl ⟨z, by simp [hz], e⟩
      · exact .inr ⟨z, hz, e⟩
  | case4 x a y b h h' ih =>
    intro q hq
    rcases List.mem_cons.1 hq with rfl | hq
    · exact .inr ⟨q, by simp, rfl⟩
    · rcases ih q hq with ⟨z, hz, e⟩ | ⟨z, hz, e⟩
      · exact .inl ⟨z, hz, e⟩
      · exact .inr ⟨z, by simp [hz], e⟩
  | case5 x a y b h h' ih =>
    intro q hq
    rcases List.mem_cons.1 hq with rfl | hq
    · exact .inl ⟨x, by simp, rfl⟩
    · rcases ih q hq with ⟨z, hz, e⟩ | ⟨z, hz, e⟩
      · exact .inl ⟨z, by simp [hz], e⟩
      · exact .inr ⟨z, by simp [hz], e⟩
theorem merge_sets {a b : List Nd} (ha : ∀ q ∈ a, isSet (-1) q.2 = true) (hb : ∀ q ∈ b, isSet (-1) q.2 = true) : ∀ q ∈ mergeS a b, isSet (-1) q.2 = true := by
  fun_induction mergeS a b with
  | case1 b => exact hb
  | case2 x a => exact ha
  | case3 x a y b h ih =>
    intro q hq
    rcases List.mem_cons.1 hq with rfl | hq
    · exact ha q (by simp)
    · exact ih (fun z hz => ha z (by simp [hz])) hb q hq
  | case4 x a y b h h' ih =>
    intro q hq
    rcases List.mem_cons.1 hq with rfl | hq
    · exact hb q (by simp)
    · exact ih ha (fun z hz => hb z (by simp [hz])) q hq
  | case5 x a y b h h' ih =>
    intro q hq
    rcases List.mem_cons.1 hq with rfl | hq
    · exact nf_set _
    · exact ih (fun z hz => ha z (by simp [hz])) (fun z hz => hb z (by simp [hz])) q hq
theorem merge_len {a b : List Nd} : (mergeS a b).length ≤ a.length + b.length := by
  fun_induction mergeS a b with
  | case1 b => simp
  | case2 x a => simp
  | case3 x a y b h ih => simp only [List.length_cons] at *; omega
  | case4 x a y b h h' ih => simp only [List.length_cons] at *; omega
  | case5 x a y b h h' ih => simp only [List.length_cons] at *; omega
theorem merge_rises {a b : List Nd} (ha : Rises a) (hb : Rises b) : Rises (mergeS a b) := by
  fun_induction mergeS a b with
  | case1 b => exact hb
  | case2 x a => exact ha
  | case3 x a y b h ih =>
    obtain ⟨a1, a2⟩ := List.pairwise_cons.1 ha
    obtain ⟨b1, b2⟩ := List.pairwise_cons.1 hb
    refine List.pairwise_cons.2 ⟨fun q hq => ?_, ih a2 hb⟩
    rcases merge_mem q hq with ⟨z, hz, e⟩ | ⟨z, hz, e⟩
    · rw [e]; exact a1 z hz
    · rw [e]
      rcases List.mem_cons.1 hz with rfl | hz
      · exact h
      · exact nlt_trans h (b1 z hz)
  | case4 x a y b h h' ih =>
    obtain ⟨a1, a2⟩ := List.pairwise_cons.1 ha
    obtain ⟨b1, b2⟩ := List.pairwise_cons.1 hb
    refine List.pairwise_cons.2 ⟨fun q hq => ?_, ih ha b2⟩
    rcases merge_mem q hq with ⟨z, hz, e⟩ | ⟨z, hz, e⟩
    · rw [e]
      rcases List.mem_cons.1 hz with rfl | hz
      · exact h'
      · exact nlt_trans h' (a1 z hz)
    · rw [e]; exact b1 z hz
  | case5 x a y b h h' ih =>
    obtain ⟨a1, a2⟩ := List.pairwise_cons.1 ha
    obtain ⟨b1, b2⟩ := List.pairwise_cons.1 hb
    have he := nlt_tri (by simpa using h) (by simpa using h')
    refine List.pairwise_cons.2 ⟨fun q hq => ?_, ih a2 b2⟩
    rcases merge_mem q hq with ⟨z, hz, e⟩ | ⟨z, hz, e⟩
    · rw [e]; exact a1 z hz
    · rw [e, he]; exact b1 z hz
def both2 : Option (List S) → Option (List S) → Option (List S) → Prop
  | some x, some y, r => r = some (meetS x y)
  | some x, none, r => r = some x
  | none, some y, r => r = some y
  | none, none, r => r = none
theorem find_cons (x : Nd) (t : List Nd) (n : ByteArray) : findS (x :: t) n = if x.1 = n then some x.2 else findS t n := rfl
theorem find_merge {a b : List Nd} (ha : Rises a) (hb : Rises b) (n : ByteArray) : both2 (findS a n) (findS b n) (findS (mergeS a b) n) := by
  fun_induction mergeS a b with
  | case1 b => cases findS b n <;> simp [findS, both2]
  | case2 x a => cases findS (x :: a) n <;> simp [findS, both2]
  | case3 x a y b h ih =>
    obtain ⟨a1, a2⟩ := List.pairwise_cons.1 ha
    obtain ⟨b1, b2⟩ := List.pairwise_cons.1 hb
    by_cases e : x.1 = n
    · have hn : findS (y :: b) n = none := find_above fun q hq => by
        rw [← e]
        rcases List.mem_cons.1 hq with rfl | hq
        · exact h
        · exact nlt_trans h (b1 q hq)
      rw [hn, find_cons, if_pos e, find_cons, if_pos e]
      exact rfl
    · rw [find_cons, if_neg e, find_cons _ (mergeS _ _), if_neg e]
      exact ih a2 hb
  | case4 x a y b h h' ih =>
    obtain ⟨a1, a2⟩ := List.pairwise_cons.1 ha
    obtain ⟨b1, b2⟩ := List.pairwise_cons.1 hb
    by_cases e : y.1 = n
    · have hn : findS (x :: a) n = none := find_above fun q hq => by
        rw [← e]
        rcases List.mem_cons.1 hq with rfl | hq
        · exact h'
        · exact nlt_trans h' (a1 q hq)
      rw [hn, find_cons, if_pos e, find_cons, if_pos e]
      exact rfl
    · rw [find_cons y, if_neg e, find_cons _ (mergeS _ _), if_neg e]
      exact ih ha b2
  | case5 x a y b h h' ih =>
    obtain ⟨a1, a2⟩ := List.pairwise_cons.1 ha
    obtain ⟨b1, b2⟩ := List.pairwise_cons.1 hb
    have he := nlt_tri (by simpa using h) (by simpa using h')
    by_cases e : x.1 = n
    · rw [find_cons x, if_pos e, find_cons y, if_pos (he.symm.trans e), find_cons, if_pos e]
      exact rfl
    · rw [find_cons x, if_neg e, find_cons y, if_neg (by rw [← he]; exact e), find_cons, if_neg e]
      exact ih a2 b2
theorem has_meet {x y : List S} {p : Int} (h0 : 0 ≤ p) (h1 : p < 1000000000) : has (meetS x y) p = (has x p && has y p) := by
  unfold meetS
  rw [nf_in _ h0 h1]
  rfl
end Go.Proofs.YtgmkagddfbfolaaDoor.Need
