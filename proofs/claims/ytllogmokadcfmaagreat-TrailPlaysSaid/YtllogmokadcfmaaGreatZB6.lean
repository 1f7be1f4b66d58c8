/-
  Some texts of this claim, one behind the other: NeedMath, TermMath, NeedCells. What each proves, and its condition, stands at its head.
-/
import Derived.Test.YtllogmokadcfmaaGreatZB4
import Derived.Test.YtllogmokadcfmaaGreatZB5
import Derived.Sort.Walk0
import Derived.Test.YtllogmokadcfmaaGreatZB3
/-
  Plain mathematics of needs: names in their order, which needs may be, what is needed of a name, what both need. No program.
-/
namespace Go.Proofs.YtllogmokadcfmaaGreat.Need
open Go.RowKit Go.Lib Go.Proofs.YtllogmokadcfmaaGreat.Span
open Go.Proofs.YtllogmokadcfmaaGreat.Label (runes fitL allOk runes_end)
set_option linter.unusedVariables false
abbrev Nd := ByteArray × List S
def nlt (a b : ByteArray) : Bool := Op.bytesLess a.toList b.toList
theorem nlt_iff {a b : ByteArray} : nlt a b = true ↔ a.toList < b.toList := by unfold nlt; rw [bytesLess_eq]; simp
theorem toList_inj {a b : ByteArray} (h : a.toList = b.toList) : a = b := by
  rw [Lib.toList_data, Lib.toList_data] at h
  exact ByteArray.ext (Array.toList_inj.1 h)
theorem eq_names (a b : ByteArray) : (a.toList == b.toList) = decide (a = b) := by
  rw [Bool.eq_iff_iff]
  simp only [beq_iff_eq, decide_eq_true_eq]
  exact ⟨toList_inj, fun h => by rw [h]⟩
theorem nlt_self (a : ByteArray) : nlt a a = false := by
  cases h : nlt a a with
  | false => rfl
  | true => exact absurd (nlt_iff.1 h) (List.lt_irrefl _)
theorem nlt_trans {a b c : ByteArray} (h : nlt a b = true) (h' : nlt b c = true) : nlt a c = true := nlt_iff.2 (List.lt_trans (nlt_iff.1 h) (nlt_iff.1 h'))
theorem nlt_asymm {a b : ByteArray} (h : nlt a b = true) : nlt b a = false := by
  cases h' : nlt b a with
  | false => rfl
  | true => exact absurd (nlt_trans h h') (by rw [nlt_self]; simp)
theorem nlt_ne {a b : ByteArray} (h : nlt a b = true) : a ≠ b := by
  rintro rfl
  rw [nlt_self] at h
  cases h
theorem nlt_tri {a b : ByteArray} (h : nlt a b = false) (h' : nlt b a = false) : a = b := by
  have h1 : ¬ a.toList < b.toList := fun g => by rw [nlt_iff.2 g] at h; cases h
  have h2 : ¬ b.toList < a.toList := fun g => by rw [nlt_iff.2 g] at h'; cases h'
  exact toList_inj (List.le_antisymm (List.not_lt.1 h2) (List.not_lt.1 h1))
def okFrom : ByteArray → List Nd → Bool
  | _, [] => true
  | a, q :: t => (fitL (runes q.1 0) && nlt a q.1 && (isSet (-1) q.2 && decide (q.2.length ≤ 6))) && okFrom q.1 t
def okS (l : List Nd) : Bool := okFrom ByteArray.empty l && decide (l.length ≤ 6)
end Go.Proofs.YtllogmokadcfmaaGreat.Need
/-
  Plain mathematics of terms: a term says what may be of a package: which versions, and whether it may be absent; what two terms come to; their laws are those of sets. No program.
-/
namespace Go.Proofs.YtllogmokadcfmaaGreat.Term
open Go.RowKit Go.Lib Go.Proofs.YtllogmokadcfmaaGreat.Span Go.Proofs.YtllogmokadcfmaaGreat.Need
open Go.Proofs.YtllogmokadcfmaaGreat.Label (runes fitL)
set_option linter.unusedVariables false
theorem m_has (a b : List S) {p : Int} (h0 : 0 ≤ p) (h1 : p < 1000000000) : has (meetS a b) p = (has a p && has b p) := nf_in _ h0 h1
def allS : List S := [(0, 1000000000)]
theorem allS_set : isSet (-1) allS = true := by decide
theorem meet_within (a b : List S) : lessS (meetS a b) a = [] := nf_nil.2 fun p p0 p1 => by
  show (has (meetS a b) p && !has a p) = false
  rw [m_has a b p0 p1]; cases has a p <;> cases has b p <;> rfl
structure Tm where
  name : ByteArray
  set : List S
  none : Bool
def okT (t : Tm) : Bool := fitL (runes t.name 0) && isSet (-1) t.set
def fullT (t : Tm) : Bool := t.none && decide (t.set = allS)
def emptyT (t : Tm) : Bool := !t.none && decide (t.set = [])
def noT : Tm := ⟨ByteArray.empty, [], false⟩
noncomputable def meetT (a b : Tm) : Tm := if a.name = b.name then ⟨a.name, meetS a.set b.set, a.none && b.none⟩ else noT
noncomputable def withinT (a b : Tm) : Bool := decide (a.name = b.name) && (decide (lessS a.set b.set = []) && (b.none || !a.none))
section
variable {a b : Tm}
theorem meet_same (h : a.name = b.name) : meetT a b = ⟨a.name, meetS a.set b.set, a.none && b.none⟩ := if_pos h
theorem meet_withinT (h : a.name = b.name) : withinT (meetT a b) a = true := by
  rw [meet_same h]
  unfold withinT
  simp only [meet_within, decide_true, Bool.true_and]
  cases a.none <;> cases b.none <;> rfl
end
end Go.Proofs.YtllogmokadcfmaaGreat.Term
/-
  Slices of needs in memory: what came in with a call, and what the call makes. No condition.
-/
namespace Go.Proofs.YtllogmokadcfmaaGreat.Need
open Go.RowKit Go.Lib Go.Proofs.YtllogmokadcfmaaGreat.Span
set_option linter.unusedVariables false
abbrev Rw := ByteArray × Value
def rcs : List Rw → List Value
  | [] => []
  | r :: t => .string r.1 :: r.2 :: rcs t
theorem rcs_length (l : List Rw) : (rcs l).length = l.length * 2 := by
  induction l with
  | nil => rfl
  | cons s t ih => simp [rcs, ih]; omega
theorem rcs_get (l : List Rw) : ∀ (i : Nat) (r : Rw), l[i]? = some r → (rcs l)[i * 2]? = some (.string r.1) ∧ (rcs l)[i * 2 + 1]? = some r.2 := by
  induction l with
  | nil => intro i s h; simp at h
  | cons x t ih =>
    intro i s h
    cases i with
    | zero => simp at h; subst h; exact ⟨rfl, rfl⟩
    | succ i =>
      rw [List.getElem?_cons_succ] at h
      have := ih i s h
      rw [show (i + 1) * 2 = i * 2 + 1 + 1 by omega, show i * 2 + 1 + 1 + 1 = (i * 2 + 1) + 1 + 1 by omega]
      exact this
def Fits (w : World) (B : Nat) (rs : List Rw) (l : List Nd) : Prop :=
  rs.length = l.length ∧ ∀ (i : Nat) (r : Rw) (q : Nd), rs[i]? = some r → l[i]? = some q → r.1 = q.1 ∧ ∃ A n c, r.2 = .slice A n c ∧ SpIn w B A n q.2
def NdIn (w : World) (B : Nat) (A : Option Addr) (n : Nat) (l : List Nd) : Prop := ∃ rs, Reads w B 2 A n (rcs rs) ∧ Fits w B rs l
section
variable {w w' : World} {B B' n k : Nat} {A : Option Addr} {l : List Nd}
theorem NdIn.len (h : NdIn w B A n l) : l.length = n := by
  obtain ⟨rs, h1, h2⟩ := h
  have := h1.1
  rw [rcs_length] at this
  have := h2.1
  omega
theorem NdIn.at_ (h : NdIn w B A n l) (hk : k < n) :
    ∃ ad q A' n' c', A = some ad ∧ ad.block < B ∧ l[k]? = some q ∧ SpIn w B A' n' q.2 ∧ w.cell? (ad.add (k * 2)) = some (.string q.1) ∧ w.cell? ⟨(ad.add (k * 2)).block, (ad.add (k * 2)).off + 1, none⟩ = some (.slice A' n' c') := by
  have hl := h.len
  obtain ⟨rs, h1, h2⟩ := h
  obtain ⟨ad, hA, hb, hc⟩ := h1.2 (by omega)
  have hr : k < rs.length := by rw [h2.1]; omega
  obtain ⟨e1, A', n', c', e2, hs⟩ := h2.2 k rs[k] (l[k]'(by omega)) (by simp) (by simp)
  obtain ⟨g1, g2⟩ := rcs_get rs k rs[k] (by simp)
  refine ⟨ad, l[k]'(by omega), A', n', c', hA, hb, by simp, hs, ?_, ?_⟩
  · rw [← e1]; exact hc _ _ g1
  · rw [← add_field, ← e2]; exact hc _ _ g2
theorem NdIn.nil (w : World) (B : Nat) (A : Option Addr) : NdIn w B A 0 [] := ⟨[], ⟨rfl, fun h => absurd h (by omega)⟩, rfl, fun i r q hr _ => by simp at hr⟩
end
/-! What a call makes. -/
def InS (w : World) (B : Nat) (A : Option Addr) (n : Nat) (l : List S) : Prop :=
  SpIn w w.heap.size A n l ∧ ∀ ad, A = some ad → 0 < n → ad.block < B ∨ ∃ cur m, w.heap[ad.block]? = some (.cells cur 56 m)
section
variable {w w' : World} {B n c : Nat} {A : Option Addr} {l : List S}
theorem InS.of_in (h : SpIn w B A n l) (hB : B ≤ w.heap.size) : InS w B A n l := ⟨h.more hB, fun ad hA hn => by
  obtain ⟨ad', hA', hb, _⟩ := h.2 hn
  rw [hA] at hA'
  injection hA' with hA'
  subst hA'
  exact .inl hb⟩
theorem InS.of_new {B' : Nat} (h : NewS w B A n c l) : InS w B' A n l := ⟨h.2.2.2, fun ad hA hn => by
  right
  rcases h.2.2.1.2 with ⟨hv, _⟩ | ⟨g, cap, cur, hv, hB, hg, _⟩
  · injection hv with e1 e2 e3
    omega
  · injection hv with e1 e2 e3
    rw [hA] at e1
    injection e1 with e1
    subst e1
    exact ⟨cur, (0, 0), hg⟩⟩
theorem InS.any (h : InS w 0 A n l) (B' : Nat) : InS w B' A n l := ⟨h.1, fun ad hA hn => (h.2 ad hA hn).imp (fun h => absurd h (by omega)) id⟩
theorem InS.below (h : InS w B A n l) (hb : Below w.heap.size w w') : InS w' B A n l := ⟨(h.1.below hb).more hb.size, fun ad hA hn => by
  obtain ⟨ad', hA', hlt, _⟩ := h.1.2 hn
  rw [hA] at hA'
  injection hA' with hA'
  subst hA'
  rcases h.2 ad hA hn with h1 | ⟨cur, m, h1⟩
  · exact .inl h1
  · exact .inr ⟨cur, m, (hb.block _ hlt).trans h1⟩⟩
end
def AllIn (w : World) (B : Nat) (rs : List Rw) (l : List Nd) : Prop :=
  rs.length = l.length ∧ ∀ (i : Nat) (r : Rw) (q : Nd), rs[i]? = some r → l[i]? = some q → r.1 = q.1 ∧ ∃ A n c, r.2 = .slice A n c ∧ InS w B A n q.2
section
variable {w w' w1 : World} {B n m : Nat} {v v1 : Value} {rs rs2 : List Rw} {l l2 : List Nd}
theorem AllIn.mono (h : AllIn w B rs l) (hk : ∀ A n s, InS w B A n s → InS w' B A n s) : AllIn w' B rs l :=
  ⟨h.1, fun i r q hr hq => by
    obtain ⟨e1, A, n, c, e2, hs⟩ := h.2 i r q hr hq
    exact ⟨e1, A, n, c, e2, hk _ _ _ hs⟩⟩
end
end Go.Proofs.YtllogmokadcfmaaGreat.Need
