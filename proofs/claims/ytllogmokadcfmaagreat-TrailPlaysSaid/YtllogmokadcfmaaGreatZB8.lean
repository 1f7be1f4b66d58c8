/-
  Some texts of this claim, one behind the other: PickMath, ClashMath, ProofMath. What each proves, and its condition, stands at its head.
-/
import Derived.Test.YtllogmokadcfmaaGreatZB6
import Derived.Test.YtllogmokadcfmaaGreatZB7
/-
  Plain mathematics of picks: which may be; what is got, put and dropped. No program.
-/
namespace Go.Proofs.YtllogmokadcfmaaGreat.Pick
open Go.RowKit Go.Lib Go.Proofs.YtllogmokadcfmaaGreat.Span Go.Proofs.YtllogmokadcfmaaGreat.Need
open Go.Proofs.YtllogmokadcfmaaGreat.Label (runes fitL runes_end)
set_option linter.unusedVariables false
abbrev Pk := ByteArray × Int
theorem nlt_cases (a b : ByteArray) : nlt a b = true ∨ a = b ∨ nlt b a = true := by
  cases h1 : nlt a b
  · cases h2 : nlt b a
    · exact .inr (.inl (nlt_tri h1 h2))
    · exact .inr (.inr rfl)
  · exact .inl rfl
theorem triP (a b : ByteArray) : (Op.bytesLess a.toList b.toList = true ∧ nlt b a = false ∧ (a.toList == b.toList) = false) ∨ (Op.bytesLess a.toList b.toList = false ∧ nlt b a = false ∧ (a.toList == b.toList) = true) ∨ (Op.bytesLess a.toList b.toList = false ∧ nlt b a = true ∧ (a.toList == b.toList) = false) := by
  rw [eq_names]
  show (nlt a b = true ∧ _) ∨ (nlt a b = false ∧ _) ∨ (nlt a b = false ∧ _)
  rcases nlt_cases a b with h | h | h
  · exact .inl ⟨h, nlt_asymm h, decide_eq_false (nlt_ne h)⟩
  · exact .inr (.inl ⟨by rw [h]; exact nlt_self b, by rw [h]; exact nlt_self b, decide_eq_true h⟩)
  · exact .inr (.inr ⟨nlt_asymm h, h, decide_eq_false fun e => nlt_ne h e.symm⟩)
def RisesP (l : List Pk) : Prop := l.Pairwise fun x y => nlt x.1 y.1 = true
def getP : List Pk → ByteArray → Option Int
  | [], _ => none
  | q :: t, n => if q.1 = n then some q.2 else getP t n
theorem getP_none {l : List Pk} {n : ByteArray} (h : ∀ q ∈ l, q.1 ≠ n) : getP l n = none := by
  induction l with
  | nil => rfl
  | cons x t ih => rw [getP, if_neg (h x (by simp))]; exact ih fun q hq => h q (by simp [hq])
theorem getP_in {l : List Pk} {n : ByteArray} {v : Int} (h : getP l n = some v) : (n, v) ∈ l := by
  induction l with
  | nil => cases h
  | cons x t ih =>
    rw [getP] at h
    split at h
    · rename_i e
      injection h with h
      subst e h
      simp
    · exact List.mem_cons_of_mem _ (ih h)
theorem getP_mem {l : List Pk} (hr : RisesP l) {q : Pk} (hq : q ∈ l) : getP l q.1 = some q.2 := by
  induction l with
  | nil => cases hq
  | cons x t ih =>
    obtain ⟨h1, h2⟩ := List.pairwise_cons.1 hr
    rcases List.mem_cons.1 hq with rfl | hq
    · rw [getP, if_pos rfl]
    · rw [getP, if_neg (nlt_ne (h1 q hq)), ih h2 hq]
def insP (n : Pk) : Bool → List Pk → List Pk
  | i, [] => if i = true then [] else [n]
  | i, x :: t => if i = false ∧ nlt n.1 x.1 = true then n :: x :: insP n true t else x :: insP n i t
theorem insP_true (n : Pk) (l : List Pk) : insP n true l = l := by
  induction l with
  | nil => rfl
  | cons x t ih => rw [insP, if_neg (by simp), ih]
theorem insP_lt {n x : Pk} {t : List Pk} (h : nlt n.1 x.1 = true) : insP n false (x :: t) = n :: x :: t := by rw [insP, if_pos ⟨rfl, h⟩, insP_true]
theorem insP_ge {n x : Pk} {t : List Pk} (h : nlt n.1 x.1 = false) : insP n false (x :: t) = x :: insP n false t := by rw [insP, if_neg (by rw [h]; simp)]
theorem insP_mem (n : Pk) (l : List Pk) {z : Pk} : z ∈ insP n false l ↔ z = n ∨ z ∈ l := by
  induction l with
  | nil => simp [insP]
  | cons y t ih =>
    cases h : nlt n.1 y.1 with
    | true => rw [insP_lt h]; simp
    | false =>
      rw [insP_ge h, List.mem_cons, List.mem_cons, ih]
      constructor
      · rintro (h | h | h)
        · exact .inr (.inl h)
        · exact .inl h
        · exact .inr (.inr h)
      · rintro (h | h | h)
        · exact .inr (.inl h)
        · exact .inl h
        · exact .inr (.inr h)
theorem insP_len (n : Pk) (l : List Pk) : (insP n false l).length = l.length + 1 := by
  induction l with
  | nil => rfl
  | cons y t ih =>
    cases h : nlt n.1 y.1 with
    | true => rw [insP_lt h]; simp
    | false => rw [insP_ge h]; simp [ih]
theorem insP_rises {n : Pk} {l : List Pk} (hl : RisesP l) (hn : ∀ q ∈ l, q.1 ≠ n.1) : RisesP (insP n false l) := by
  induction l with
  | nil => exact List.pairwise_singleton _ _
  | cons y t ih =>
    obtain ⟨h1, h2⟩ := List.pairwise_cons.1 hl
    cases h : nlt n.1 y.1 with
    | true =>
      rw [insP_lt h]
      refine List.pairwise_cons.2 ⟨fun z hz => ?_, hl⟩
      rcases List.mem_cons.1 hz with rfl | hz
      · exact h
      · exact nlt_trans h (h1 z hz)
    | false =>
      rw [insP_ge h]
      refine List.pairwise_cons.2 ⟨fun z hz => ?_, ih h2 fun q hq => hn q (by simp [hq])⟩
      rcases (insP_mem n t).1 hz with rfl | hz
      · rcases nlt_cases y.1 z.1 with g | g | g
        · exact g
        · exact absurd g (hn y (by simp))
        · rw [g] at h; cases h
      · exact h1 z hz
def verOk (v : Int) : Bool := decide (0 ≤ v ∧ v < 1000000000)
theorem verOk_iff {v : Int} : verOk v = true ↔ 0 ≤ v ∧ v < 1000000000 := by unfold verOk; simp
theorem fit_some {x : ByteArray} (h : fitL (runes x 0) = true) : x ≠ ByteArray.empty := by
  rintro rfl
  rw [runes_end _ _ (by decide)] at h
  cases h
theorem empty_lt {x : ByteArray} (h : x ≠ ByteArray.empty) : nlt ByteArray.empty x = true := by
  rcases nlt_cases ByteArray.empty x with g | g | g
  · exact g
  · exact absurd g.symm h
  · rw [nlt_iff] at g
    rw [Lib.toList_data ByteArray.empty] at g
    exact absurd g (List.not_lt_nil _)
def dropP (l : List Pk) (n : ByteArray) : List Pk := l.filter fun q => decide (q.1 ≠ n)
theorem dropP_take {l : List Pk} {n : ByteArray} {i : Nat} {q : Pk} (h : l[i]? = some q) : dropP (l.take (i + 1)) n = if q.1 = n then dropP (l.take i) n else dropP (l.take i) n ++ [q] := by
  unfold dropP
  rw [take_snoc' l i q h, List.filter_append]
  by_cases e : q.1 = n <;> simp [e]
theorem dropP_mem {l : List Pk} {n : ByteArray} {q : Pk} : q ∈ dropP l n ↔ q ∈ l ∧ q.1 ≠ n := by unfold dropP; simp
theorem dropP_rises {l : List Pk} (h : RisesP l) (n : ByteArray) : RisesP (dropP l n) := List.Pairwise.filter _ h
def putP (l : List Pk) (p : Pk) : List Pk := insP p false (dropP l p.1)
theorem drop_ne {l : List Pk} {n : ByteArray} : ∀ q ∈ dropP l n, q.1 ≠ n := fun q hq => (dropP_mem.1 hq).2
theorem putP_len (l : List Pk) (p : Pk) : (putP l p).length ≤ l.length + 1 := by
  unfold putP
  rw [insP_len]
  have : (dropP l p.1).length ≤ l.length := List.length_filter_le _ _
  omega
theorem same_get : ∀ {l m : List Pk}, RisesP l → RisesP m → (∀ x, getP l x = getP m x) → l = m
  | [], [], _, _, _ => rfl
  | [], y :: m, _, _, h => by
    have := h y.1
    rw [getP, getP, if_pos rfl] at this
    cases this
  | x :: l, [], _, _, h => by
    have := h x.1
    rw [getP, getP, if_pos rfl] at this
    cases this
  | x :: l, y :: m, hl, hm, h => by
    obtain ⟨a1, a2⟩ := List.pairwise_cons.1 hl
    obtain ⟨b1, b2⟩ := List.pairwise_cons.1 hm
    have hxy : x.1 = y.1 := by
      rcases nlt_cases x.1 y.1 with g | g | g
      · have e := h x.1
        rw [getP, if_pos rfl, getP_none] at e
        · cases e
        · intro q hq f
          rcases List.mem_cons.1 hq with rfl | hq
          · rw [f, nlt_self] at g; cases g
          · have := nlt_trans g (b1 q hq)
            rw [f, nlt_self] at this; cases this
      · exact g
      · have e := h y.1
        rw [getP_none, getP, if_pos rfl] at e
        · cases e
        · intro q hq f
          rcases List.mem_cons.1 hq with rfl | hq
          · rw [f, nlt_self] at g; cases g
          · have := nlt_trans g (a1 q hq)
            rw [f, nlt_self] at this; cases this
    have hv : x.2 = y.2 := by
      have e := h x.1
      rw [getP, if_pos rfl, getP, if_pos hxy.symm] at e
      injection e
    have e1 : x = y := Prod.ext hxy hv
    subst e1
    congr 1
    refine same_get a2 b2 fun z => ?_
    have e := h z
    rw [getP, getP] at e
    by_cases g : x.1 = z
    · rw [getP_none (fun q hq f => by have := a1 q hq; rw [f, ← g, nlt_self] at this; cases this), getP_none (fun q hq f => by have := b1 q hq; rw [f, ← g, nlt_self] at this; cases this)]
    · rwa [if_neg g, if_neg g] at e
end Go.Proofs.YtllogmokadcfmaaGreat.Pick
/-
  Plain mathematics of clashes: terms of names that rise; what terms come to, what two clashes are joined to; a state of names has what terms come to just if it has each; if what two are joined to holds, one of the two does. No program.
-/
namespace Go.Proofs.YtllogmokadcfmaaGreat.Clash
open Go.RowKit Go.Lib Go.Proofs.YtllogmokadcfmaaGreat.Span Go.Proofs.YtllogmokadcfmaaGreat.Need Go.Proofs.YtllogmokadcfmaaGreat.Pick Go.Proofs.YtllogmokadcfmaaGreat.Term
set_option linter.unusedVariables false
abbrev St := ByteArray → Option Int
def RisesC (c : List Tm) : Prop := c.Pairwise fun x y => nlt x.name y.name = true
def OkC (c : List Tm) : Prop := RisesC c ∧ ∀ t ∈ c, okT t = true ∧ fullT t = false ∧ emptyT t = false
section
variable {q : St}
end
end Go.Proofs.YtllogmokadcfmaaGreat.Clash
/-
  Plain mathematics of proofs' steps: which may be; which steps the last one leans on; what is left of a proof that is trimmed: it may be, is trimmed, ends in the step that was last, and has no step that was not there. No program.
-/
namespace Go.Proofs.YtllogmokadcfmaaGreat.Proof
open Go.RowKit Go.Lib Go.Proofs.YtllogmokadcfmaaGreat.Span Go.Proofs.YtllogmokadcfmaaGreat.Need Go.Proofs.YtllogmokadcfmaaGreat.Pick
open Go.Proofs.YtllogmokadcfmaaGreat.Label (runes fitL)
set_option linter.unusedVariables false
structure Sp where
  kind : Int
  name : ByteArray
  ver : Int
  dest : ByteArray
  a : Int
  b : Int
inductive U (l : List Sp) : Nat → Prop
  | last : U l (l.length - 1)
  | left {i : Nat} {s : Sp} (h : U l i) (hs : l[i]? = some s) (hk : s.kind = 4) : U l s.a.toNat
  | right {i : Nat} {s : Sp} (h : U l i) (hs : l[i]? = some s) (hk : s.kind = 4) : U l s.b.toNat
section
variable {l : List Sp}
end
end Go.Proofs.YtllogmokadcfmaaGreat.Proof
