/-
  Some texts of this claim, one behind the other: ReachMath. What each proves, and its condition, stands at its head.
-/
import Derived.Test.YtllogmokadcfmaaGreatZB17
import Derived.Test.YtllogmokadcfmaaGreatZB18
/-
  Plain mathematics of what may be needed: the names that needs reach by what is known; the document's way to them, again and again until nothing comes; the more is known, the more may be needed. No program.
-/
namespace Go.Proofs.YtllogmokadcfmaaGreat.Reach
open Go.RowKit Go.Lib Go.Proofs.YtllogmokadcfmaaGreat.Span Go.Proofs.YtllogmokadcfmaaGreat.Need Go.Proofs.YtllogmokadcfmaaGreat.Mani Go.Proofs.YtllogmokadcfmaaGreat.Wire Go.Proofs.YtllogmokadcfmaaGreat.Depot Go.Proofs.YtllogmokadcfmaaGreat.Index
set_option linter.unusedVariables false
def asksX (X : List Kn) (a : ByteArray) : List ByteArray := allN (getX X a).1
inductive May (X : List Kn) (root : List Nd) : ByteArray → Prop
  | root {a : ByteArray} (h : a ∈ namesS root) : May X root a
  | ask {a b : ByteArray} (h : May X root a) (k : b ∈ asksX X a) : May X root b
def addsN (out acc : List ByteArray) : List ByteArray := acc.foldl (fun o x => addF x false o) out
theorem addsN_ok (acc : List ByteArray) {out : List ByteArray} (h : RisesN out) : RisesN (addsN out acc) ∧ ∀ z, z ∈ addsN out acc ↔ z ∈ out ∨ z ∈ acc := fold_ok acc out h
def stepN (X : List Kn) (out l : List ByteArray) : List ByteArray := addsN out (l.flatMap (asksX X))
theorem stepN_ok (X : List Kn) {out : List ByteArray} (h : RisesN out) (l : List ByteArray) : RisesN (stepN X out l) ∧ ∀ z, z ∈ stepN X out l ↔ z ∈ out ∨ ∃ a ∈ l, z ∈ asksX X a := by
  obtain ⟨h1, h2⟩ := addsN_ok (l.flatMap (asksX X)) h
  refine ⟨h1, fun z => ?_⟩
  unfold stepN
  rw [h2, List.mem_flatMap]
theorem sub_of_rises : ∀ {m l : List ByteArray}, RisesN l → RisesN m → (∀ z, z ∈ l → z ∈ m) → l.Sublist m
  | [], [], _, _, _ => List.Sublist.slnil
  | [], x :: l, _, _, h => by have := h x (by simp); cases this
  | y :: m, [], _, _, _ => List.nil_sublist _
  | y :: m, x :: l, hl, hm, h => by
    obtain ⟨a1, a2⟩ := List.pairwise_cons.1 hl
    obtain ⟨b1, b2⟩ := List.pairwise_cons.1 hm
    by_cases e : x = y
    · subst e
      refine (sub_of_rises a2 b2 fun z hz => ?_).cons_cons x
      rcases List.mem_cons.1 (h z (List.mem_cons_of_mem _ hz)) with g | g
      · have := a1 z hz
        rw [g, nlt_self] at this
        cases this
      · exact g
    · refine (sub_of_rises hl b2 fun z hz => ?_).cons y
      rcases List.mem_cons.1 (h z hz) with g | g
      · subst g
        rcases List.mem_cons.1 hz with k | k
        · exact absurd k.symm e
        · have h1 := a1 z k
          rcases List.mem_cons.1 (h x (by simp)) with k2 | k2
          · exact absurd k2 e
          · have h2 := b1 x k2
            have := nlt_trans h1 h2
            rw [nlt_self] at this
            cases this
      · exact g
theorem len_of_sub {l m : List ByteArray} (hl : RisesN l) (hm : RisesN m) (h : ∀ z, z ∈ l → z ∈ m) : l.length ≤ m.length := (sub_of_rises hl hm h).length_le
structure Under (X : List Kn) (root : List Nd) (out : List ByteArray) : Prop where
  rises : RisesN out
  may : ∀ z, z ∈ out → May X root z
  has : ∀ z, z ∈ namesS root → z ∈ out
theorem Under.step {X : List Kn} {root : List Nd} {out : List ByteArray} (h : Under X root out) : Under X root (stepN X out out) := by
  obtain ⟨h1, h2⟩ := stepN_ok X h.rises out
  refine ⟨h1, fun z hz => ?_, fun z hz => (h2 z).2 (.inl (h.has z hz))⟩
  rcases (h2 z).1 hz with g | ⟨a, ha, g⟩
  · exact h.may z g
  · exact .ask (h.may a ha) g
def allX (X : List Kn) (root : List Nd) : List ByteArray := foldN (namesS root ++ X.flatMap fun q => allN q.2.1)
theorem may_all {X : List Kn} {root : List Nd} {z : ByteArray} (h : May X root z) : z ∈ allX X root := by
  unfold allX
  rw [foldN_mem, List.mem_append]
  induction h with
  | root hr => exact .inl hr
  | @ask a b _ hk _ =>
    refine .inr (List.mem_flatMap.2 ?_)
    unfold asksX getX at hk
    cases g : atX X a with
    | none => rw [g] at hk; cases hk
    | some k => rw [g] at hk; exact ⟨_, atX_in g, hk⟩
theorem Under.len {X : List Kn} {root : List Nd} {out : List ByteArray} (h : Under X root out) : out.length ≤ (allX X root).length := len_of_sub h.rises (foldN_rises _) fun z hz => may_all (h.may z hz)
end Go.Proofs.YtllogmokadcfmaaGreat.Reach
