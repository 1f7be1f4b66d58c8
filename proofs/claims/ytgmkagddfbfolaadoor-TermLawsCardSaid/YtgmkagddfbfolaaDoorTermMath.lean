/-
  Plain mathematics of terms: a term says what may be of a package: which versions, and whether it may be absent; what two terms come to; their laws are those of sets. No program.
-/
import Derived.Test.YtgmkagddfbfolaaDoorNeedMath
namespace Go.Proofs.YtgmkagddfbfolaaDoor.Term
open Go.RowKit Go.Lib Go.Proofs.YtgmkagddfbfolaaDoor.Span Go.Proofs.YtgmkagddfbfolaaDoor.Need
open Go.Proofs.YtgmkagddfbfolaaDoor.Label (runes fitL)
set_option linter.unusedVariables false
theorem u_has (a b : List S) {p : Int} (h0 : 0 ≤ p) (h1 : p < 1000000000) : has (unionS a b) p = (has a p || has b p) := nf_in _ h0 h1
theorem m_has (a b : List S) {p : Int} (h0 : 0 ≤ p) (h1 : p < 1000000000) : has (meetS a b) p = (has a p && has b p) := nf_in _ h0 h1
theorem n_has (a : List S) {p : Int} (h0 : 0 ≤ p) (h1 : p < 1000000000) : has (notS a) p = !has a p := nf_in _ h0 h1
/-- Every version. -/
def allS : List S := [(0, 1000000000)]
theorem allS_set : isSet (-1) allS = true := by decide
theorem a_has {p : Int} (h0 : 0 ≤ p) (h1 : p < 1000000000) : has allS p = true := by unfold has allS; simp [h0, h1]
theorem not_not {a : List S} (ha : isSet (-1) a = true) : notS (notS a) = a := (is_nf ha fun p p0 p1 => by
  show _ = !has (notS a) p
  rw [n_has a p0 p1]; simp).symm
theorem not_union (a b : List S) : notS (unionS a b) = meetS (notS a) (notS b) := nf_congr fun p p0 p1 => by
  show (!has (unionS a b) p) = (has (notS a) p && has (notS b) p)
  rw [u_has a b p0 p1, n_has a p0 p1, n_has b p0 p1]; simp
theorem less_is (a b : List S) : meetS a (notS b) = lessS a b := nf_congr fun p p0 p1 => by
  show (has a p && has (notS b) p) = (has a p && !has b p)
  rw [n_has b p0 p1]
theorem meet_within (a b : List S) : lessS (meetS a b) a = [] := nf_nil.2 fun p p0 p1 => by
  show (has (meetS a b) p && !has a p) = false
  rw [m_has a b p0 p1]; cases has a p <;> cases has b p <;> rfl
theorem union_over (a b : List S) : lessS a (unionS a b) = [] := nf_nil.2 fun p p0 p1 => by
  show (has a p && !has (unionS a b) p) = false
  rw [u_has a b p0 p1]; cases has a p <;> cases has b p <;> rfl
theorem meet_not (a : List S) : meetS a (notS a) = [] := nf_nil.2 fun p p0 p1 => by
  show (has a p && has (notS a) p) = false
  rw [n_has a p0 p1]; cases has a p <;> rfl
theorem union_not (a : List S) : unionS a (notS a) = allS := (is_nf allS_set fun p p0 p1 => by
  show has allS p = (has a p || has (notS a) p)
  rw [a_has p0 p1, n_has a p0 p1]; cases has a p <;> rfl).symm
/-- A term: a name, versions, and whether it may be absent. -/
structure Tm where
  name : ByteArray
  set : List S
  none : Bool
def okT (t : Tm) : Bool := fitL (runes t.name 0) && isSet (-1) t.set
def fullT (t : Tm) : Bool := t.none && decide (t.set = allS)
def emptyT (t : Tm) : Bool := !t.none && decide (t.set = [])
noncomputable def notT (t : Tm) : Tm := ⟨t.name, notS t.set, !t.none⟩
def noT : Tm := ⟨ByteArray.empty, [], false⟩
noncomputable def meetT (a b : Tm) : Tm := if a.name = b.name then ⟨a.name, meetS a.set b.set, a.none && b.none⟩ else noT
noncomputable def joinT (a b : Tm) : Tm := if a.name = b.name then ⟨a.name, unionS a.set b.set, a.none || b.none⟩ else noT
noncomputable def withinT (a b : Tm) : Bool := decide (a.name = b.name) && (decide (lessS a.set b.set = []) && (b.none || !a.none))
def hasT (t : Tm) (p : Int) (chosen : Bool) : Bool := if chosen then has t.set p else t.none
section
variable {a b : Tm}
theorem meet_same (h : a.name = b.name) : meetT a b = ⟨a.name, meetS a.set b.set, a.none && b.none⟩ := if_pos h
theorem join_same (h : a.name = b.name) : joinT a b = ⟨a.name, unionS a.set b.set, a.none || b.none⟩ := if_pos h
/-- A term and its not meet in nothing, and join in all. -/
theorem meet_notT (a : Tm) : emptyT (meetT a (notT a)) = true := by
  rw [meet_same (a := a) (b := notT a) rfl]
  unfold emptyT notT
  simp only [meet_not]
  cases a.none <;> rfl
theorem join_notT (a : Tm) : fullT (joinT a (notT a)) = true := by
  rw [join_same (a := a) (b := notT a) rfl]
  unfold fullT notT
  simp only [union_not]
  cases a.none <;> rfl
theorem not_notT (h : okT a = true) : notT (notT a) = a := by
  unfold okT at h
  simp only [Bool.and_eq_true] at h
  obtain ⟨n, s, z⟩ := a
  unfold notT
  simp only [not_not h.2, Bool.not_not]
/-- Not of a join is the meet of both nots. -/
theorem not_join (h : a.name = b.name) : notT (joinT a b) = meetT (notT a) (notT b) := by
  rw [join_same h, meet_same (a := notT a) (b := notT b) h]
  unfold notT
  simp only [not_union, Bool.not_or]
/-- What is within has nothing outside. -/
theorem within_is (h : a.name = b.name) : withinT a b = emptyT (meetT a (notT b)) := by
  rw [meet_same (a := a) (b := notT b) h]
  unfold withinT emptyT notT
  simp only [h, less_is, decide_true, Bool.true_and]
  cases a.none <;> cases b.none <;> simp
theorem meet_withinT (h : a.name = b.name) : withinT (meetT a b) a = true := by
  rw [meet_same h]
  unfold withinT
  simp only [meet_within, decide_true, Bool.true_and]
  cases a.none <;> cases b.none <;> rfl
theorem within_join (h : a.name = b.name) : withinT a (joinT a b) = true := by
  rw [join_same h]
  unfold withinT
  simp only [union_over, decide_true, Bool.true_and]
  cases a.none <;> cases b.none <;> rfl
theorem ok_not (h : okT a = true) : okT (notT a) = true := by
  unfold okT at h ⊢
  simp only [Bool.and_eq_true] at h ⊢
  exact ⟨h.1, nf_set _⟩
end
end Go.Proofs.YtgmkagddfbfolaaDoor.Term
