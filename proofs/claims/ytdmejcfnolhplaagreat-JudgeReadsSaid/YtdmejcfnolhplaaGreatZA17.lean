/-
  Some texts of this claim, one behind the other: NeedMath, TermMath, NeedCells, ManiTexts. What each proves, and its condition, stands at its head.
-/
import Derived.Test.YtdmejcfnolhplaaGreatZA12
import Derived.Test.YtdmejcfnolhplaaGreatZA16
import Derived.Sort.Walk0
import Derived.Test.YtdmejcfnolhplaaGreatZA11
/-
  Plain mathematics of needs: names in their order, which needs may be, what is needed of a name, what both need. No program.
-/
namespace Go.Proofs.YtdmejcfnolhplaaGreat.Need
open Go.RowKit Go.Lib Go.Proofs.YtdmejcfnolhplaaGreat.Span
open Go.Proofs.YtdmejcfnolhplaaGreat.Label (runes fitL allOk runes_end)
set_option linter.unusedVariables false
abbrev Nd := ByteArray × List S
def nlt (a b : ByteArray) : Bool := Op.bytesLess a.toList b.toList
theorem nlt_iff {a b : ByteArray} : nlt a b = true ↔ a.toList < b.toList := by unfold nlt; rw [bytesLess_eq]; simp
theorem toList_inj {a b : ByteArray} (h : a.toList = b.toList) : a = b := by
  rw [Lib.toList_data, Lib.toList_data] at h
  exact ByteArray.ext (Array.toList_inj.1 h)
theorem eq_names (a b : ByteArray) : (a.toList == b.toList) = decide (a = b) := by
  rw [Bool.eq_iff_iff]
  simp only [beq_iff_eq, decide_eq_true_eq]
  exact ⟨toList_inj, fun h => by rw [h]⟩
theorem nlt_self (a : ByteArray) : nlt a a = false := by
  cases h : nlt a a with
  | false => rfl
  | true => exact absurd (nlt_iff.1 h) (List.lt_irrefl _)
theorem nlt_trans {a b c : ByteArray} (h : nlt a b = true) (h' : nlt b c = true) : nlt a c = true := nlt_iff.2 (List.lt_trans (nlt_iff.1 h) (nlt_iff.1 h'))
theorem nlt_asymm {a b : ByteArray} (h : nlt a b = true) : nlt b a = false := by
  cases h' : nlt b a with
  | false => rfl
  | true => exact absurd (nlt_trans h h') (by rw [nlt_self]; simp)
theorem nlt_ne {a b : ByteArray} (h : nlt a b = true) : a ≠ b := by
  rintro rfl
  rw [nlt_self] at h
  cases h
theorem nlt_tri {a b : ByteArray} (h : nlt a b = false) (h' : nlt b a = false) : a = b := by
  have h1 : ¬ a.toList < b.toList := fun g => by rw [nlt_iff.2 g] at h; cases h
  have h2 : ¬ b.toList < a.toList := fun g => by rw [nlt_iff.2 g] at h'; cases h'
  exact toList_inj (List.le_antisymm (List.not_lt.1 h2) (List.not_lt.1 h1))
theorem nlt_empty {a : ByteArray} (h : fitL (runes a 0) = true) : nlt ByteArray.empty a = true := by
  have hs : 0 < a.size := by
    rcases Nat.eq_zero_or_pos a.size with h0 | h0
    · rw [runes_end a 0 (by omega)] at h
      simp [fitL] at h
    · exact h0
  unfold nlt
  have hl : a.toList ≠ [] := by
    rw [Lib.toList_data]
    intro e
    have : a.size = 0 := by rw [Lib.size_eq, e]; rfl
    omega
  have he : ByteArray.empty.toList = [] := by rw [Lib.toList_data]; rfl
  rw [he]
  cases h' : a.toList with
  | nil => exact absurd h' hl
  | cons x t => rfl
def okFrom : ByteArray → List Nd → Bool
  | _, [] => true
  | a, q :: t => (fitL (runes q.1 0) && nlt a q.1 && (isSet (-1) q.2 && decide (q.2.length ≤ 6))) && okFrom q.1 t
def okS (l : List Nd) : Bool := okFrom ByteArray.empty l && decide (l.length ≤ 6)
def Rises (l : List Nd) : Prop := l.Pairwise fun x y => nlt x.1 y.1 = true
theorem ok_all {l : List Nd} : ∀ {a : ByteArray}, okFrom a l = true → ∀ q ∈ l, nlt a q.1 = true ∧ fitL (runes q.1 0) = true ∧ isSet (-1) q.2 = true ∧ q.2.length ≤ 6 := by
  induction l with
  | nil => intro a _ q hq; cases hq
  | cons x t ih =>
    intro a h q hq
    simp only [okFrom, Bool.and_eq_true, decide_eq_true_eq] at h
    obtain ⟨⟨⟨h1, h2⟩, h3, h4⟩, h5⟩ := h
    rcases List.mem_cons.1 hq with rfl | hq
    · exact ⟨h2, h1, h3, h4⟩
    · obtain ⟨g1, g2⟩ := ih h5 q hq
      exact ⟨nlt_trans h2 g1, g2⟩
theorem ok_rises {l : List Nd} : ∀ {a : ByteArray}, okFrom a l = true → Rises l := by
  induction l with
  | nil => intro a _; exact List.Pairwise.nil
  | cons x t ih =>
    intro a h
    simp only [okFrom, Bool.and_eq_true, decide_eq_true_eq] at h
    exact List.pairwise_cons.2 ⟨fun q hq => (ok_all h.2 q hq).1, ih h.2⟩
theorem okS_parts {l : List Nd} (h : okS l = true) : okFrom ByteArray.empty l = true ∧ l.length ≤ 6 ∧ Rises l ∧ ∀ q ∈ l, isSet (-1) q.2 = true ∧ q.2.length ≤ 6 := by
  simp only [okS, Bool.and_eq_true, decide_eq_true_eq] at h
  exact ⟨h.1, h.2, ok_rises h.1, fun q hq => (ok_all h.1 q hq).2.2⟩
def findS : List Nd → ByteArray → Option (List S)
  | [], _ => none
  | q :: t, n => if q.1 = n then some q.2 else findS t n
theorem find_in {l : List Nd} {n : ByteArray} {s : List S} (h : findS l n = some s) : (n, s) ∈ l := by
  induction l with
  | nil => cases h
  | cons x t ih =>
    rw [findS] at h
    split at h
    · rename_i e
      injection h with h
      subst e h
      simp
    · exact List.mem_cons_of_mem _ (ih h)
theorem find_drop {l : List Nd} {n : ByteArray} {i : Nat} {q : Nd} (h : l[i]? = some q) : findS (l.drop i) n = if q.1 = n then some q.2 else findS (l.drop (i + 1)) n := by
  obtain ⟨hi, e⟩ := List.getElem?_eq_some_iff.1 h
  rw [List.drop_eq_getElem_cons hi, e]
  rfl
theorem ok_drop {l : List Nd} {a : ByteArray} {i : Nat} {q : Nd} (h : l[i]? = some q) : okFrom a (l.drop i) = ((fitL (runes q.1 0) && nlt a q.1 && (isSet (-1) q.2 && decide (q.2.length ≤ 6))) && okFrom q.1 (l.drop (i + 1))) := by
  obtain ⟨hi, e⟩ := List.getElem?_eq_some_iff.1 h
  rw [List.drop_eq_getElem_cons hi, e]
  rfl
noncomputable def putN (n : Nd) : Bool → List Nd → List Nd
  | i, [] => if i = true then [] else [n]
  | i, x :: t => if i = false ∧ nlt n.1 x.1 = true then n :: x :: putN n true t else if n.1 = x.1 then (n.1, meetS x.2 n.2) :: putN n true t else x :: putN n i t
theorem put_true {y : Nd} {a : List Nd} (h : ∀ q ∈ a, nlt y.1 q.1 = true) : putN y true a = a := by
  induction a with
  | nil => rfl
  | cons x t ih =>
    rw [putN, if_neg (by simp), if_neg (nlt_ne (h x (by simp))), ih fun q hq => h q (by simp [hq])]
theorem find_cons (x : Nd) (t : List Nd) (n : ByteArray) : findS (x :: t) n = if x.1 = n then some x.2 else findS t n := rfl
end Go.Proofs.YtdmejcfnolhplaaGreat.Need
/-
  Plain mathematics of terms: a term says what may be of a package: which versions, and whether it may be absent; what two terms come to; their laws are those of sets. No program.
-/
namespace Go.Proofs.YtdmejcfnolhplaaGreat.Term
open Go.RowKit Go.Lib Go.Proofs.YtdmejcfnolhplaaGreat.Span Go.Proofs.YtdmejcfnolhplaaGreat.Need
open Go.Proofs.YtdmejcfnolhplaaGreat.Label (runes fitL)
set_option linter.unusedVariables false
theorem u_has (a b : List S) {p : Int} (h0 : 0 ≤ p) (h1 : p < 1000000000) : has (unionS a b) p = (has a p || has b p) := nf_in _ h0 h1
theorem m_has (a b : List S) {p : Int} (h0 : 0 ≤ p) (h1 : p < 1000000000) : has (meetS a b) p = (has a p && has b p) := nf_in _ h0 h1
def allS : List S := [(0, 1000000000)]
theorem allS_set : isSet (-1) allS = true := by decide
theorem a_has {p : Int} (h0 : 0 ≤ p) (h1 : p < 1000000000) : has allS p = true := by unfold has allS; simp [h0, h1]
structure Tm where
  name : ByteArray
  set : List S
  none : Bool
def okT (t : Tm) : Bool := fitL (runes t.name 0) && isSet (-1) t.set
def fullT (t : Tm) : Bool := t.none && decide (t.set = allS)
def emptyT (t : Tm) : Bool := !t.none && decide (t.set = [])
noncomputable def notT (t : Tm) : Tm := ⟨t.name, notS t.set, !t.none⟩
def noT : Tm := ⟨ByteArray.empty, [], false⟩
noncomputable def meetT (a b : Tm) : Tm := if a.name = b.name then ⟨a.name, meetS a.set b.set, a.none && b.none⟩ else noT
noncomputable def joinT (a b : Tm) : Tm := if a.name = b.name then ⟨a.name, unionS a.set b.set, a.none || b.none⟩ else noT
section
variable {a b : Tm}
theorem meet_same (h : a.name = b.name) : meetT a b = ⟨a.name, meetS a.set b.set, a.none && b.none⟩ := if_pos h
theorem join_same (h : a.name = b.name) : joinT a b = ⟨a.name, unionS a.set b.set, a.none || b.none⟩ := if_pos h
end
end Go.Proofs.YtdmejcfnolhplaaGreat.Term
/-
  Slices of needs in memory: what came in with a call, and what the call makes. No condition.
-/
namespace Go.Proofs.YtdmejcfnolhplaaGreat.Need
open Go.RowKit Go.Lib Go.Proofs.YtdmejcfnolhplaaGreat.Span
set_option linter.unusedVariables false
theorem info_need : (Tryz.prog.info? 60).map (fun i => (i.zero, i.size, i.bytes)) = some (some (.agg #[.string ByteArray.empty, .slice none 0 0]), 2, 40) := by kernel_rfl
abbrev Rw := ByteArray × Value
def rcs : List Rw → List Value
  | [] => []
  | r :: t => .string r.1 :: r.2 :: rcs t
theorem rcs_length (l : List Rw) : (rcs l).length = l.length * 2 := by
  induction l with
  | nil => rfl
  | cons s t ih => simp [rcs, ih]; omega
theorem rcs_append (l m : List Rw) : rcs (l ++ m) = rcs l ++ rcs m := by
  induction l with
  | nil => rfl
  | cons s t ih => simp [rcs, ih]
theorem rcs_one (l : List Rw) (h : ∀ r ∈ l, ∃ A n c, r.2 = .slice A n c) : ∀ u ∈ rcs l, u.oneCell' = true := by
  induction l with
  | nil => intro u hu; cases hu
  | cons s t ih =>
    intro u hu
    simp only [rcs, List.mem_cons] at hu
    rcases hu with rfl | rfl | hu
    · rfl
    · obtain ⟨A, n, c, e⟩ := h s (by simp)
      rw [e]; rfl
    · exact ih (fun r hr => h r (by simp [hr])) u hu
theorem rcs_get (l : List Rw) : ∀ (i : Nat) (r : Rw), l[i]? = some r → (rcs l)[i * 2]? = some (.string r.1) ∧ (rcs l)[i * 2 + 1]? = some r.2 := by
  induction l with
  | nil => intro i s h; simp at h
  | cons x t ih =>
    intro i s h
    cases i with
    | zero => simp at h; subst h; exact ⟨rfl, rfl⟩
    | succ i =>
      rw [List.getElem?_cons_succ] at h
      have := ih i s h
      rw [show (i + 1) * 2 = i * 2 + 1 + 1 by omega, show i * 2 + 1 + 1 + 1 = (i * 2 + 1) + 1 + 1 by omega]
      exact this
def Fits (w : World) (B : Nat) (rs : List Rw) (l : List Nd) : Prop :=
  rs.length = l.length ∧ ∀ (i : Nat) (r : Rw) (q : Nd), rs[i]? = some r → l[i]? = some q → r.1 = q.1 ∧ ∃ A n c, r.2 = .slice A n c ∧ SpIn w B A n q.2
def NdIn (w : World) (B : Nat) (A : Option Addr) (n : Nat) (l : List Nd) : Prop := ∃ rs, Reads w B 2 A n (rcs rs) ∧ Fits w B rs l
section
variable {w w' : World} {B B' n k : Nat} {A : Option Addr} {l : List Nd}
theorem NdIn.len (h : NdIn w B A n l) : l.length = n := by
  obtain ⟨rs, h1, h2⟩ := h
  have := h1.1
  rw [rcs_length] at this
  have := h2.1
  omega
theorem NdIn.at_ (h : NdIn w B A n l) (hk : k < n) :
    ∃ ad q A' n' c', A = some ad ∧ ad.block < B ∧ l[k]? = some q ∧ SpIn w B A' n' q.2 ∧ w.cell? (ad.add (k * 2)) = some (.string q.1) ∧ w.cell? ⟨(ad.add (k * 2)).block, (ad.add (k * 2)).off + 1, none⟩ = some (.slice A' n' c') := by
  have hl := h.len
  obtain ⟨rs, h1, h2⟩ := h
  obtain ⟨ad, hA, hb, hc⟩ := h1.2 (by omega)
  have hr : k < rs.length := by rw [h2.1]; omega
  obtain ⟨e1, A', n', c', e2, hs⟩ := h2.2 k rs[k] (l[k]'(by omega)) (by simp) (by simp)
  obtain ⟨g1, g2⟩ := rcs_get rs k rs[k] (by simp)
  refine ⟨ad, l[k]'(by omega), A', n', c', hA, hb, by simp, hs, ?_, ?_⟩
  · rw [← e1]; exact hc _ _ g1
  · rw [← add_field, ← e2]; exact hc _ _ g2
theorem Fits.below {rs : List Rw} (h : Fits w B rs l) (hb : Below B w w') : Fits w' B rs l :=
  ⟨h.1, fun i r q hr hq => by
    obtain ⟨e1, A', n', c', e2, hs⟩ := h.2 i r q hr hq
    exact ⟨e1, A', n', c', e2, hs.below hb⟩⟩
theorem Fits.more {rs : List Rw} (h : Fits w B rs l) (hb : B ≤ B') : Fits w B' rs l :=
  ⟨h.1, fun i r q hr hq => by
    obtain ⟨e1, A', n', c', e2, hs⟩ := h.2 i r q hr hq
    exact ⟨e1, A', n', c', e2, hs.more hb⟩⟩
theorem NdIn.below (h : NdIn w B A n l) (hb : Below B w w') : NdIn w' B A n l := by
  obtain ⟨rs, h1, h2⟩ := h
  exact ⟨rs, h1.below hb, h2.below hb⟩
theorem NdIn.more (h : NdIn w B A n l) (hb : B ≤ B') : NdIn w B' A n l := by
  obtain ⟨rs, h1, h2⟩ := h
  exact ⟨rs, h1.more hb, h2.more hb⟩
theorem NdIn.nil (w : World) (B : Nat) (A : Option Addr) : NdIn w B A 0 [] := ⟨[], ⟨rfl, fun h => absurd h (by omega)⟩, rfl, fun i r q hr _ => by simp at hr⟩
theorem Fits.drop {rs : List Rw} (h : Fits w B rs l) (k : Nat) : Fits w B (rs.drop k) (l.drop k) :=
  ⟨by simp [h.1], fun i r q hr hq => by
    rw [List.getElem?_drop] at hr hq
    exact h.2 _ r q hr hq⟩
end
def NdOn (w : World) (A : Option Addr) (n : Nat) (l : List Nd) : Prop := NdIn w w.heap.size A n l
theorem NdOn.on {w w' : World} {A : Option Addr} {n : Nat} {l : List Nd} (h : NdOn w A n l) (hb : Below w.heap.size w w') : NdOn w' A n l := (NdIn.below h hb).more hb.size
theorem ndOn_of {w : World} {A : Option Addr} {n : Nat} {l : List Nd} (h : RowOf (liePair lieStr (lieSlice (liePair (lieInt .i64) (lieInt .i64)))) w w.heap.size A n l) : NdOn w A n l ∧ ∀ q ∈ l, q.1.size ≤ maxLen := by
  have key : ∀ i (q : Nd), l[i]? = some q → ∃ ad A' n' c', A = some ad ∧ ad.block < w.heap.size ∧ CellsAt w (ad.add (i * 2)) [.string q.1, .slice A' n' c'] ∧ q.1.size ≤ maxLen ∧ SpOn w A' n' q.2 := by
    intro i q hq
    have hi : i < l.length := (List.getElem?_eq_some_iff.1 hq).1
    obtain ⟨ad, hA, hB, hc⟩ := h.2 (by have := h.1; omega)
    obtain ⟨cs, h1, c1, c2, e, ⟨e1, hs⟩, ⟨A', n', c', e2, _, _, _, hr⟩⟩ := hc i q hq
    subst e e1 e2
    exact ⟨ad, A', n', c', hA, hB, h1, hs, spOn_of hr⟩
  have hq : ∀ q ∈ l, q.1.size ≤ maxLen := by
    intro q hq
    obtain ⟨i, hi, rfl⟩ := List.getElem_of_mem hq
    obtain ⟨_, _, _, _, _, _, _, h5, _⟩ := key i l[i] (by simp)
    exact h5
  refine ⟨?_, hq⟩
  obtain ⟨f, hf⟩ : ∃ f : Nat → Value, ∀ i (q : Nd), l[i]? = some q → ∃ ad A' n' c', A = some ad ∧ f i = .slice A' n' c' ∧ CellsAt w (ad.add (i * 2)) [.string q.1, f i] ∧ SpOn w A' n' q.2 := by
    refine ⟨fun i => if hi : i < l.length then (match key i l[i] (by simp) with | h => Value.slice (Classical.choose (Classical.choose_spec h)) (Classical.choose (Classical.choose_spec (Classical.choose_spec h))) (Classical.choose (Classical.choose_spec (Classical.choose_spec (Classical.choose_spec h))))) else undef, fun i q hq => ?_⟩
    have hi : i < l.length := (List.getElem?_eq_some_iff.1 hq).1
    have hq' : l[i] = q := (List.getElem?_eq_some_iff.1 hq).2
    subst hq'
    simp only [hi, dif_pos]
    have hs := Classical.choose_spec (Classical.choose_spec (Classical.choose_spec (Classical.choose_spec (key i l[i] (by simp)))))
    exact ⟨_, _, _, _, hs.1, rfl, hs.2.2.1, hs.2.2.2.2⟩
  refine ⟨(List.range l.length).map fun i => ((l[i]?.map Prod.fst).getD ByteArray.empty, f i), ⟨by rw [rcs_length]; simp [h.1], fun hn => ?_⟩, by simp, fun i r q hr hq => ?_⟩
  · obtain ⟨ad, hA, hB, _⟩ := h.2 hn
    refine ⟨ad, hA, hB, fun j u hu => ?_⟩
    have hj : j < l.length * 2 := by
      have := (List.getElem?_eq_some_iff.1 hu).1
      rw [rcs_length] at this
      simpa using this
    have hi : j / 2 < l.length := by omega
    obtain ⟨ad', A', n', c', hA', e, hc, _⟩ := hf (j / 2) l[j / 2] (by simp)
    rw [hA] at hA'
    injection hA' with hA'
    subst hA'
    have hr : ((List.range l.length).map fun i => ((l[i]?.map Prod.fst).getD ByteArray.empty, f i))[j / 2]? = some ((l[j / 2]).1, f (j / 2)) := by
      rw [List.getElem?_map, List.getElem?_range hi]
      simp only [Option.map_some, Option.some.injEq, Prod.mk.injEq, and_true]
      rw [List.getElem?_eq_getElem hi]
      rfl
    obtain ⟨g1, g2⟩ := rcs_get _ (j / 2) _ hr
    rcases Nat.mod_two_eq_zero_or_one j with h0 | h0
    · have ej : j = j / 2 * 2 := by omega
      rw [ej, g1] at hu
      injection hu with hu
      subst hu
      have := hc 0 (by simp)
      rw [add_of_add, Nat.add_zero, ← ej] at this
      simpa using this
    · have ej : j = j / 2 * 2 + 1 := by omega
      rw [ej, g2] at hu
      injection hu with hu
      subst hu
      have := hc 1 (by simp)
      rw [add_of_add, ← ej] at this
      simpa using this
  · obtain ⟨ad', A', n', c', hA', e, hc, hs⟩ := hf i q hq
    have hi : i < l.length := (List.getElem?_eq_some_iff.1 hq).1
    rw [List.getElem?_map, List.getElem?_range hi] at hr
    simp only [Option.map_some, Option.some.injEq] at hr
    subst hr
    exact ⟨by rw [hq]; rfl, A', n', c', e, hs⟩
/-! What a call makes. -/
def InS (w : World) (B : Nat) (A : Option Addr) (n : Nat) (l : List S) : Prop :=
  SpIn w w.heap.size A n l ∧ ∀ ad, A = some ad → 0 < n → ad.block < B ∨ ∃ cur m, w.heap[ad.block]? = some (.cells cur 67 m)
section
variable {w w' : World} {B n c : Nat} {A : Option Addr} {l : List S}
theorem InS.of_in (h : SpIn w B A n l) (hB : B ≤ w.heap.size) : InS w B A n l := ⟨h.more hB, fun ad hA hn => by
  obtain ⟨ad', hA', hb, _⟩ := h.2 hn
  rw [hA] at hA'
  injection hA' with hA'
  subst hA'
  exact .inl hb⟩
theorem InS.of_new {B' : Nat} (h : NewS w B A n c l) : InS w B' A n l := ⟨h.2.2.2, fun ad hA hn => by
  right
  rcases h.2.2.1.2 with ⟨hv, _⟩ | ⟨g, cap, cur, hv, hB, hg, _⟩
  · injection hv with e1 e2 e3
    omega
  · injection hv with e1 e2 e3
    rw [hA] at e1
    injection e1 with e1
    subst e1
    exact ⟨cur, (0, 0), hg⟩⟩
theorem InS.any (h : InS w 0 A n l) (B' : Nat) : InS w B' A n l := ⟨h.1, fun ad hA hn => (h.2 ad hA hn).imp (fun h => absurd h (by omega)) id⟩
theorem InS.below (h : InS w B A n l) (hb : Below w.heap.size w w') : InS w' B A n l := ⟨(h.1.below hb).more hb.size, fun ad hA hn => by
  obtain ⟨ad', hA', hlt, _⟩ := h.1.2 hn
  rw [hA] at hA'
  injection hA' with hA'
  subst hA'
  rcases h.2 ad hA hn with h1 | ⟨cur, m, h1⟩
  · exact .inl h1
  · exact .inr ⟨cur, m, (hb.block _ hlt).trans h1⟩⟩
theorem InS.grown {v : Value} {m : Nat} {xs : List Value} (h : InS w B A n l) (hown : w.ownsRow B 60 2 v m xs) (hg : w.grownBy w' v.ownBlock) : InS w' B A n l := by
  have key : ∀ ad, A = some ad → 0 < n → ad.block < w.heap.size ∧ some ad.block ≠ v.ownBlock := by
    intro ad hA hn
    obtain ⟨ad', hA', hlt, _⟩ := h.1.2 hn
    rw [hA] at hA'
    injection hA' with hA'
    subst hA'
    refine ⟨hlt, fun e => ?_⟩
    rcases hown.2 with ⟨rfl, _⟩ | ⟨g, cap, cur, rfl, hB, hgg, _⟩
    · cases e
    · simp only [Value.ownBlock, Option.some.injEq] at e
      rcases h.2 ad hA hn with h1 | ⟨cur', m', h1⟩
      · omega
      · rw [e, hgg] at h1
        injection h1 with h1
        injection h1 with _ h1 _
        exact absurd h1 (by decide)
  refine ⟨⟨h.1.1, fun hn => ?_⟩, fun ad hA hn => ?_⟩
  · obtain ⟨ad, hA, hlt, hc⟩ := h.1.2 hn
    have hk := key ad hA hn
    refine ⟨ad, hA, Nat.lt_of_lt_of_le hlt hg.size, fun i s hs => ?_⟩
    obtain ⟨c1, c2⟩ := hc i s hs
    have hb := hg.block _ hk.1 hk.2
    constructor
    · exact (World.cell?_of_block (by rw [block_of_add]; exact hb)).trans c1
    · exact (World.cell?_of_block (by simp only [block_of_add]; exact hb)).trans c2
  · have hk := key ad hA hn
    rcases h.2 ad hA hn with h1 | ⟨cur, m, h1⟩
    · exact .inl h1
    · exact .inr ⟨cur, m, (hg.block _ hk.1 hk.2).trans h1⟩
end
def AllIn (w : World) (B : Nat) (rs : List Rw) (l : List Nd) : Prop :=
  rs.length = l.length ∧ ∀ (i : Nat) (r : Rw) (q : Nd), rs[i]? = some r → l[i]? = some q → r.1 = q.1 ∧ ∃ A n c, r.2 = .slice A n c ∧ InS w B A n q.2
section
variable {w w' w1 : World} {B n m : Nat} {v v1 : Value} {rs rs2 : List Rw} {l l2 : List Nd}
theorem AllIn.mono (h : AllIn w B rs l) (hk : ∀ A n s, InS w B A n s → InS w' B A n s) : AllIn w' B rs l :=
  ⟨h.1, fun i r q hr hq => by
    obtain ⟨e1, A, n, c, e2, hs⟩ := h.2 i r q hr hq
    exact ⟨e1, A, n, c, e2, hk _ _ _ hs⟩⟩
theorem AllIn.append (h : AllIn w B rs l) (h2 : AllIn w B rs2 l2) : AllIn w B (rs ++ rs2) (l ++ l2) :=
  ⟨by simp [h.1, h2.1], fun i r q hr hq => by
    rcases Nat.lt_or_ge i rs.length with hi | hi
    · rw [List.getElem?_append_left hi] at hr
      rw [List.getElem?_append_left (by rw [← h.1]; exact hi)] at hq
      exact h.2 i r q hr hq
    · rw [List.getElem?_append_right hi] at hr
      rw [List.getElem?_append_right (by rw [← h.1]; exact hi), ← h.1] at hq
      exact h2.2 _ r q hr hq⟩
theorem AllIn.one {nm : ByteArray} {A : Option Addr} {k c : Nat} {s : List S} (h : InS w B A k s) : AllIn w B [(nm, .slice A k c)] [(nm, s)] :=
  ⟨rfl, fun i r q hr hq => by
    rcases i with _ | i
    · simp at hr hq
      subst hr hq
      exact ⟨rfl, A, k, c, rfl, h⟩
    · simp at hr⟩
def Nds (w : World) (B : Nat) (v : Value) (n : Nat) (rs : List Rw) (l : List Nd) : Prop := w.ownsRow B 60 2 v n (rcs rs) ∧ AllIn w B rs l
theorem Nds.len (h : Nds w B v n rs l) : l.length = n := by
  have := h.1.1
  rw [rcs_length] at this
  have := h.2.1
  omega
theorem Nds.told (h : Nds w B v n rs l) : ∃ A c, v = .slice A n c ∧ n ≤ c ∧ NdIn w w.heap.size A n l := by
  obtain ⟨A, c, rfl, hc, _, hr⟩ := own_form h.1
  exact ⟨A, c, rfl, hc, rs, hr, h.2.1, fun i r q hr hq => by
    obtain ⟨e1, A, n, c, e2, hs⟩ := h.2.2 i r q hr hq
    exact ⟨e1, A, n, c, e2, hs.1⟩⟩
theorem reads_need (w : World) (nm : ByteArray) (A : Option Addr) (n c : Nat) (T : TypeId) (g : Nat) (hg : g = w.heap.size) :
    Reads (w.alloc (.cells #[.string nm, .slice A n c] T)) (w.heap.size + 1) 2 (some ⟨g, 0, none⟩) 1 (rcs [(nm, .slice A n c)]) := by
  subst hg
  have h := Reads.newL w T #[.string nm, .slice A n c]
  exact ⟨rfl, fun _ => h.2 (by simp)⟩
theorem one_need (nm : ByteArray) (A : Option Addr) (n c : Nat) : ∀ u ∈ rcs [(nm, .slice A n c)], u.oneCell' = true := rcs_one _ fun r hr => by
  rw [List.mem_singleton.1 hr]
  exact ⟨A, n, c, rfl⟩
end
end Go.Proofs.YtdmejcfnolhplaaGreat.Need
/-
  Slices of texts: as they came in, as a call makes them; the contract of the document's Names2, at two lists that are alike: true. Condition: lists of a length that may be walked.
-/
namespace Go.Proofs.YtdmejcfnolhplaaGreat.Mani
open Go Go.RowKit Go.Lib Go.Proofs.YtdmejcfnolhplaaGreat.Span Go.Proofs.YtdmejcfnolhplaaGreat.Need
set_option linter.unusedVariables false
def tcs (l : List ByteArray) : List Value := l.map Value.string
theorem tcs_length (l : List ByteArray) : (tcs l).length = l.length := by simp [tcs]
def TxOn (w : World) (A : Option Addr) (n : Nat) (L : List ByteArray) : Prop := Reads w w.heap.size 1 A n (tcs L)
theorem TxOn.on {w w' : World} {A : Option Addr} {n : Nat} {L : List ByteArray} (h : TxOn w A n L) (hb : Below w.heap.size w w') : TxOn w' A n L := (Reads.below h hb).more hb.size
theorem TxOn.len {w : World} {A : Option Addr} {n : Nat} {L : List ByteArray} (h : TxOn w A n L) : L.length = n := by
  have := h.1
  rw [tcs_length] at this
  omega
theorem tcs_at {w : World} {B n k : Nat} {A : Option Addr} {l : List ByteArray} (h : Reads w B 1 A n (tcs l)) (hk : k < n) : ∃ ad z, A = some ad ∧ ad.block < B ∧ l[k]? = some z ∧ w.cell? (ad.add k) = some (.string z) := by
  obtain ⟨ad, u, hA, hb, hx, hc⟩ := h.at_ hk
  simp only [tcs, List.getElem?_map, Option.map_eq_some_iff] at hx
  obtain ⟨z, hz, rfl⟩ := hx
  exact ⟨ad, z, hA, hb, hz, hc⟩
def MakesT (w : World) (L : List ByteArray) (e : Ending) (w' : World) : Prop := ∃ A n c, e = .returned (.slice A n c) ∧ TxOn w' A n L ∧ Below w.heap.size w w'
theorem own_texts {w : World} {B n : Nat} {v : Value} {L : List ByteArray} (h : w.ownsRow B 9 1 v n (tcs L)) : ∃ A c, v = .slice A n c ∧ n ≤ c ∧ TxOn w A n L := by
  obtain ⟨A, c, rfl, hc, hm, hr⟩ := own_form h
  exact ⟨A, c, rfl, hc, hr⟩
end Go.Proofs.YtdmejcfnolhplaaGreat.Mani
