/-
  Some texts of this claim, one behind the other: FitMath, FitSets, PlainMath, PlainLen, PlainWay, FitLen, PlainMach, PlainLeast. What each proves, and its condition, stands at its head.
-/
import Derived.Test.YtmoeilkaadnnoaaGreatY32
import Derived.Test.YtmoeilkaadnnoaaGreatY18
/-
  Plain mathematics of solutions: what is needed by picks; what is wrong with them; a solution stays one as more is known, its names are just those that are needed, without one of its picks it is none. No program.
-/
namespace Go.Proofs.YtmoeilkaadnnoaaGreat.Fit
open Go.RowKit Go.Lib Go.Proofs.YtmoeilkaadnnoaaGreat.Span Go.Proofs.YtmoeilkaadnnoaaGreat.Need Go.Proofs.YtmoeilkaadnnoaaGreat.Mani Go.Proofs.YtmoeilkaadnnoaaGreat.Wire Go.Proofs.YtmoeilkaadnnoaaGreat.Depot Go.Proofs.YtmoeilkaadnnoaaGreat.Index Go.Proofs.YtmoeilkaadnnoaaGreat.Reach Go.Proofs.YtmoeilkaadnnoaaGreat.Pick
set_option linter.unusedVariables false
def memB (x : ByteArray) (o : List ByteArray) : Bool := o.any fun y => decide (y = x)
def relX (X : List Kn) (a : ByteArray) (v : Int) : Option Rl := getR (getX X a).1 v
def needsX (X : List Kn) (a : ByteArray) (v : Int) : List Nd := ((relX X a v).getD (0, [])).2
def metP (l : List Pk) (q : Nd) : Bool := match getP l q.1 with
  | some v => has q.2 v
  | none => false
def asksF (X : List Kn) (l : List Pk) (a : ByteArray) : List ByteArray := match getP l a with
  | some v => namesS (needsX X a v)
  | none => []
theorem asks_pick {X : List Kn} {l : List Pk} {a z : ByteArray} (h : z ∈ asksF X l a) : ∃ v, getP l a = some v ∧ z ∈ namesS (needsX X a v) := by
  unfold asksF at h
  cases e : getP l a with
  | none => rw [e] at h; cases h
  | some v => rw [e] at h; exact ⟨v, rfl, h⟩
inductive MayF (X : List Kn) (root : List Nd) (l : List Pk) : ByteArray → Prop
  | root {a : ByteArray} (h : a ∈ namesS root) : MayF X root l a
  | ask {a b : ByteArray} (h : MayF X root l a) (k : b ∈ asksF X l a) : MayF X root l b
def stepF (X : List Kn) (l : List Pk) (o : List ByteArray) : List ByteArray := addsN o (o.flatMap (asksF X l))
def roundsF (X : List Kn) (l : List Pk) : Nat → List ByteArray → List ByteArray
  | 0, o => o
  | k + 1, o => roundsF X l k (stepF X l o)
def neededX (X : List Kn) (root : List Nd) (l : List Pk) : List ByteArray := roundsF X l (l.length + 1) (addsN [] (namesS root))
section
variable {X : List Kn} {root : List Nd} {l : List Pk}
def ClosedF (X : List Kn) (l : List Pk) (o : List ByteArray) : Prop := ∀ a ∈ o, ∀ z ∈ asksF X l a, z ∈ o
def cntF (l : List Pk) (o : List ByteArray) : Nat := (l.filter fun q : Pk => memB q.1 o).length
def ReachesF (X : List Kn) (root : List Nd) (l : List Pk) (L : List ByteArray) : Prop := RisesN L ∧ ∀ z, z ∈ L ↔ MayF X root l z
theorem ReachesF.unique {L M : List ByteArray} (h : ReachesF X root l L) (k : ReachesF X root l M) : L = M := rises_unique h.1 k.1 fun z => (h.2 z).trans (k.2 z).symm
def lacksX (X : List Kn) (p : Pk) : Bool := !(relX X p.1 p.2).isSome
def unmetX (X : List Kn) (l : List Pk) (p : Pk) : Bool := (needsX X p.1 p.2).any fun q => !metP l q
def wrongX (X : List Kn) (root : List Nd) (l : List Pk) : Int × ByteArray :=
  if okP l = false then (1, ByteArray.empty) else match root.find? fun q : Nd => !metP l q with
  | some q => (2, q.1)
  | none => match l.find? (lacksX X) with
    | some p => (3, p.1)
    | none => match l.find? (unmetX X l) with
      | some p => (4, p.1)
      | none => match l.find? fun p : Pk => !memB p.1 (neededX X root l) with
        | some p => (5, p.1)
        | none => (0, ByteArray.empty)
def solX (X : List Kn) (root : List Nd) (l : List Pk) : Bool := decide ((wrongX X root l).1 = 0)
end
end Go.Proofs.YtmoeilkaadnnoaaGreat.Fit
/-
  What is known has sets for what it needs. No program.
-/
namespace Go.Proofs.YtmoeilkaadnnoaaGreat.Fit
open Go.RowKit Go.Lib Go.Proofs.YtmoeilkaadnnoaaGreat.Span Go.Proofs.YtmoeilkaadnnoaaGreat.Need Go.Proofs.YtmoeilkaadnnoaaGreat.Mani Go.Proofs.YtmoeilkaadnnoaaGreat.Wire Go.Proofs.YtmoeilkaadnnoaaGreat.Depot Go.Proofs.YtmoeilkaadnnoaaGreat.Index Go.Proofs.YtmoeilkaadnnoaaGreat.Pick
set_option linter.unusedVariables false
def SetR (l : List Rl) : Prop := ∀ r ∈ l, okS r.2 = true
def SetX (X : List Kn) : Prop := ∀ q ∈ X, SetR q.2.1
theorem relE_sets (nm : ByteArray) (b : List UInt8) : SetR (relE nm b) := by
  unfold relE
  split
  · rename_i h
    unfold goodE at h
    simp only [Bool.and_eq_true, decide_eq_true_eq] at h
    have hok : okM (readB b).1 (readB b).2 = true := by
      unfold readB
      rw [if_pos h.1]
      have h0 := h.1
      unfold errB at h0
      split at h0
      · exact absurd h0 (by simp)
      · split at h0
        · rename_i e; exact absurd h0 e
        · split at h0
          · rename_i e; exact e
          · exact absurd h0 (by simp)
    simp only [okM, Bool.and_eq_true] at hok
    exact fun r hr => (okR_all hok.1 r hr).2.2
  · intro r hr; cases hr
theorem SetX.nil : SetX [] := fun q hq => by cases hq
theorem SetX.put {l : List Kn} (h : SetX l) (nm : ByteArray) (b : List UInt8) : SetX (putX l nm b) := by
  unfold putX
  split
  · intro q hq
    rcases (insX_mem _ _).1 hq with rfl | hq
    · exact relE_sets nm b
    · exact h q hq
  · exact h
theorem SetX.puts {l : List Kn} (h : SetX l) (es : List En) : SetX (putsX l es) := by
  induction es generalizing l with
  | nil => exact h
  | cons e t ih => exact ih (h.put e.1 e.2)
theorem SetX.get {l : List Kn} (h : SetX l) (nm : ByteArray) : SetR (getX l nm).1 := by
  unfold getX
  cases g : atX l nm with
  | none => exact fun r hr => by cases hr
  | some k => exact h _ (atX_in g)
theorem needs_ok {X : List Kn} (h : SetX X) (a : ByteArray) (v : Int) : okS (needsX X a v) = true := by
  unfold needsX relX
  cases g : getR (getX X a).1 v with
  | none => rfl
  | some r => exact h.get a r (getR_mem g).1
theorem needs_sets {X : List Kn} (h : SetX X) (a : ByteArray) (v : Int) : (needsX X a v).length ≤ 6 ∧ ∀ q ∈ needsX X a v, isSet (-1) q.2 = true ∧ q.2.length ≤ 6 :=
  ⟨(okS_parts (needs_ok h a v)).2.1, (okS_parts (needs_ok h a v)).2.2.2⟩
end Go.Proofs.YtmoeilkaadnnoaaGreat.Fit
/-
  Plain mathematics of the plain search: what is asked of a name, which name is next, the search with fuel; what is found is a solution, where nothing is found no picks are one, both are so as more is known, what is lacked may be needed and is not known. No program.
-/
namespace Go.Proofs.YtmoeilkaadnnoaaGreat.Plain
open Go.RowKit Go.Lib Go.Proofs.YtmoeilkaadnnoaaGreat.Label Go.Proofs.YtmoeilkaadnnoaaGreat.Span Go.Proofs.YtmoeilkaadnnoaaGreat.Need Go.Proofs.YtmoeilkaadnnoaaGreat.Mani Go.Proofs.YtmoeilkaadnnoaaGreat.Wire Go.Proofs.YtmoeilkaadnnoaaGreat.Depot Go.Proofs.YtmoeilkaadnnoaaGreat.Index Go.Proofs.YtmoeilkaadnnoaaGreat.Reach Go.Proofs.YtmoeilkaadnnoaaGreat.Pick Go.Proofs.YtmoeilkaadnnoaaGreat.Fit
set_option linter.unusedVariables false
def allS : List S := [(0, 1000000000)]
noncomputable def narrow (o : List S) : Option (List S) → List S
  | some s => meetS o s
  | none => o
noncomputable def askedX (X : List Kn) (root : List Nd) (l : List Pk) (a : ByteArray) : List S := l.foldl (fun o p => narrow o (findS (needsX X p.1 p.2) a)) (narrow allS (findS root a))
def wantsX (X : List Kn) (root : List Nd) (l : List Pk) : List ByteArray := addsN (addsN [] (namesS root)) (l.flatMap fun p => namesS (needsX X p.1 p.2))
def nextX (X : List Kn) (root : List Nd) (l : List Pk) : Option ByteArray := (wantsX X root l).find? fun a => (getP l a).isNone
noncomputable def deadX (X : List Kn) (root : List Nd) (l : List Pk) : Bool := l.any fun p => !has (askedX X root l p.1) p.2
inductive Told
  | nothing
  | found (l : List Pk)
  | lacks (a : ByteArray)
  | broken (a : ByteArray)
  | spent
def triesX (rec : Nat → List Pk → Told × Nat) (put : Int → List Pk) : List Int → Nat → Told × Nat
  | [], f => (.nothing, f)
  | v :: t, f => if f = 0 then (.spent, 0) else match rec (f - 1) (put v) with
    | (.nothing, f') => triesX rec put t f'
    | r => r
noncomputable def onX (X : List Kn) (root : List Nd) : Nat → Nat → List Pk → Told × Nat
  | 0, f, l => (.spent, f)
  | g + 1, f, l => if deadX X root l = true then (.nothing, f) else match nextX X root l with
    | none => (.found l, f)
    | some a => match atX X a with
      | none => (.lacks a, f)
      | some k => triesX (onX X root g) (fun v => putP l (a, v)) (downS k.1 (askedX X root l a)) f
noncomputable def solveX (X : List Kn) (root : List Nd) (fuel : Nat) : Told := match root.find? fun q : Nd => (atX X q.1).isNone with
  | some q => .lacks q.1
  | none => match root.find? fun q : Nd => !(getX X q.1).2 with
    | some q => .broken q.1
    | none => (onX X root (fuel + 1) fuel []).1
section
variable {X : List Kn} {root : List Nd}
theorem allS_set : isSet (-1) allS = true := by decide
theorem has_all {v : Int} : has allS v = true ↔ 0 ≤ v ∧ v < 1000000000 := by
  unfold has allS
  simp
theorem meet_both {x y : List S} (hx : isSet (-1) x = true) (p : Int) : has (meetS x y) p = (has x p && has y p) := by
  by_cases hp : 0 ≤ p ∧ p < 1000000000
  · exact has_meet hp.1 hp.2
  · have h1 : has (meetS x y) p = false := by
      cases h : has (meetS x y) p with
      | false => rfl
      | true => exact absurd (has_range (nf_set _) h) (by omega)
    have h2 : has x p = false := by
      cases h : has x p with
      | false => rfl
      | true => exact absurd (has_range hx h) (by omega)
    rw [h1, h2]; rfl
theorem narrow_set {o : List S} (h : isSet (-1) o = true) (s : Option (List S)) : isSet (-1) (narrow o s) = true := by
  cases s with
  | none => exact h
  | some s => exact nf_set _
theorem has_narrow {o : List S} (h : isSet (-1) o = true) (s : Option (List S)) (p : Int) : has (narrow o s) p = true ↔ has o p = true ∧ ∀ x, s = some x → has x p = true := by
  cases s with
  | none => exact ⟨fun e => ⟨e, fun x hx => by cases hx⟩, fun e => e.1⟩
  | some s =>
    show has (meetS o s) p = true ↔ _
    rw [meet_both h, Bool.and_eq_true]
    exact ⟨fun e => ⟨e.1, fun x hx => by injection hx with hx; rw [← hx]; exact e.2⟩, fun e => ⟨e.1, e.2 s rfl⟩⟩
theorem fold_has (a : ByteArray) (p : Int) : ∀ (l : List Pk) {o : List S}, isSet (-1) o = true → (has (l.foldl (fun o p => narrow o (findS (needsX X p.1 p.2) a)) o) p = true ↔ has o p = true ∧ ∀ q ∈ l, ∀ x, findS (needsX X q.1 q.2) a = some x → has x p = true)
  | [], o, h => ⟨fun e => ⟨e, fun q hq => by cases hq⟩, fun e => e.1⟩
  | q :: t, o, h => by
    rw [List.foldl_cons, fold_has a p t (narrow_set h _), has_narrow h]
    constructor
    · rintro ⟨⟨h1, h2⟩, h3⟩
      refine ⟨h1, fun r hr => ?_⟩
      rcases List.mem_cons.1 hr with rfl | hr
      · exact h2
      · exact h3 r hr
    · rintro ⟨h1, h2⟩
      exact ⟨⟨h1, h2 q (by simp)⟩, fun r hr => h2 r (by simp [hr])⟩
theorem asked_has (l : List Pk) (a : ByteArray) (p : Int) : has (askedX X root l a) p = true ↔ (0 ≤ p ∧ p < 1000000000) ∧ (∀ x, findS root a = some x → has x p = true) ∧ ∀ q ∈ l, ∀ x, findS (needsX X q.1 q.2) a = some x → has x p = true := by
  unfold askedX
  rw [fold_has a p l (narrow_set allS_set _), has_narrow allS_set, has_all, and_assoc]
theorem wants_ok (l : List Pk) : RisesN (wantsX X root l) ∧ ∀ z, z ∈ wantsX X root l ↔ z ∈ namesS root ∨ ∃ p ∈ l, z ∈ namesS (needsX X p.1 p.2) := by
  obtain ⟨h1, h2⟩ := addsN_ok (namesS root) (out := []) List.Pairwise.nil
  obtain ⟨h3, h4⟩ := addsN_ok (l.flatMap fun p => namesS (needsX X p.1 p.2)) h1
  refine ⟨h3, fun z => ?_⟩
  unfold wantsX
  rw [h4, h2, List.mem_flatMap]
  simp
theorem next_some {l : List Pk} {a : ByteArray} (h : nextX X root l = some a) : (a ∈ namesS root ∨ ∃ p ∈ l, a ∈ namesS (needsX X p.1 p.2)) ∧ getP l a = none := by
  unfold nextX at h
  have h1 := List.find?_some h
  exact ⟨((wants_ok l).2 a).1 (List.mem_of_find?_eq_some h), by simpa using h1⟩
theorem alive {l : List Pk} : deadX X root l = false ↔ ∀ p ∈ l, has (askedX X root l p.1) p.2 = true := by
  unfold deadX
  rw [List.any_eq_false]
  constructor
  · intro h p hp
    have := h p hp
    simpa using this
  · intro h p hp
    simp [h p hp]
def VerX (X : List Kn) : Prop := ∀ q ∈ X, ∀ r ∈ q.2.1, 0 ≤ r.1 ∧ r.1 < 1000000000
structure Way (X : List Kn) (root : List Nd) (l : List Pk) : Prop where
  ok : okP l = true
  rel : ∀ p ∈ l, (relX X p.1 p.2).isSome = true
  may : ∀ p ∈ l, MayF X root l p.1
theorem Way.nil (X : List Kn) (root : List Nd) : Way X root [] := ⟨rfl, fun p hp => by (cases hp), fun p hp => by (cases hp)⟩
theorem may_put {l : List Pk} {a : ByteArray} {v : Int} (hn : getP l a = none) {z : ByteArray} (h : MayF X root l z) : MayF X root (putP l (a, v)) z := by
  induction h with
  | root h => exact .root h
  | @ask c b hc hb ih =>
    refine .ask ih ?_
    obtain ⟨u, hu, hz⟩ := asks_pick hb
    unfold Fit.asksF
    rw [putP_get]
    have hne : a ≠ c := fun e => by rw [e, hu] at hn; cases hn
    simp only [if_neg hne, hu]
    exact hz
theorem put_mem {l : List Pk} {a : ByteArray} {v : Int} (hr : RisesP l) (hn : getP l a = none) {q : Pk} : q ∈ putP l (a, v) ↔ q = (a, v) ∨ q ∈ l := by
  have hd : dropP l a = l := dropP_none fun q hq e => by
    have := getP_mem hr hq
    rw [e, hn] at this
    cases this
  unfold putP
  rw [insP_mem, hd]
theorem Way.put {l : List Pk} (hw : Way X root l) (hset : SetX X) (hver : VerX X) (hroot : okS root = true) {a : ByteArray} {v : Int} {k : Kv} (hnx : nextX X root l = some a) (hk : atX X a = some k) (hv : v ∈ downS k.1 (askedX X root l a)) : Way X root (putP l (a, v)) := by
  obtain ⟨hm, hn⟩ := next_some hnx
  obtain ⟨⟨r, hr, hrv⟩, hh⟩ := downS_mem.1 hv
  have hris := (okP_iff.1 hw.ok).1
  have hfit : fitL (runes a 0) = true := by
    rcases hm with h | ⟨p, hp, h⟩
    · obtain ⟨q, hq, rfl⟩ := List.mem_map.1 h
      exact (ok_all (okS_parts hroot).1 q hq).2.1
    · obtain ⟨q, hq, rfl⟩ := List.mem_map.1 h
      exact (ok_all (okS_parts (needs_ok hset p.1 p.2)).1 q hq).2.1
  refine ⟨putP_ok hw.ok hfit (verOk_iff.2 ((asked_has l a v).1 hh).1), fun p hp => ?_, fun p hp => ?_⟩
  · rcases (put_mem hris hn).1 hp with rfl | hp
    · show (relX X a v).isSome = true
      unfold relX getX
      rw [hk]
      obtain ⟨r', hr'⟩ := getR_some hr
      rw [hrv] at hr'
      show (getR k.1 v).isSome = true
      rw [hr']; rfl
    · exact hw.rel p hp
  · rcases (put_mem hris hn).1 hp with rfl | hp
    · refine may_put hn ?_
      rcases hm with h | ⟨p, hp, h⟩
      · exact .root h
      · refine .ask (hw.may p hp) ?_
        unfold Fit.asksF
        rw [getP_mem hris hp]
        exact h
    · exact may_put hn (hw.may p hp)
theorem relE_vers (nm : ByteArray) (b : List UInt8) : ∀ r ∈ relE nm b, 0 ≤ r.1 ∧ r.1 < 1000000000 := by
  unfold relE
  split
  · rename_i h
    unfold goodE at h
    simp only [Bool.and_eq_true, decide_eq_true_eq] at h
    have hok : okM (readB b).1 (readB b).2 = true := by
      unfold readB
      rw [if_pos h.1]
      have h0 := h.1
      unfold errB at h0
      split at h0
      · exact absurd h0 (by simp)
      · split at h0
        · rename_i e; exact absurd h0 e
        · split at h0
          · rename_i e; exact e
          · exact absurd h0 (by simp)
    exact fun r hr => ⟨((okM_parts hok).2.2 r hr).1, ((okM_parts hok).2.2 r hr).2.1⟩
  · intro r hr; cases hr
theorem VerX.nil : VerX [] := fun q hq => by cases hq
theorem VerX.put {l : List Kn} (h : VerX l) (nm : ByteArray) (b : List UInt8) : VerX (putX l nm b) := by
  unfold putX
  split
  · intro q hq
    rcases (insX_mem _ _).1 hq with rfl | hq
    · exact relE_vers nm b
    · exact h q hq
  · exact h
theorem VerX.puts {l : List Kn} (h : VerX l) (es : List En) : VerX (putsX l es) := by
  induction es generalizing l with
  | nil => exact h
  | cons e t ih => exact ih (h.put e.1 e.2)
def Ended (r : Told) : Prop := r = .nothing ∨ ∃ p, r = .found p
end
end Go.Proofs.YtmoeilkaadnnoaaGreat.Plain
/-
  How many spans a meet of sets has, and what is asked of a name. No program.
-/
namespace Go.Proofs.YtmoeilkaadnnoaaGreat.Plain
open Go.RowKit Go.Lib Go.Proofs.YtmoeilkaadnnoaaGreat.Label Go.Proofs.YtmoeilkaadnnoaaGreat.Span Go.Proofs.YtmoeilkaadnnoaaGreat.Need Go.Proofs.YtmoeilkaadnnoaaGreat.Mani Go.Proofs.YtmoeilkaadnnoaaGreat.Wire Go.Proofs.YtmoeilkaadnnoaaGreat.Depot Go.Proofs.YtmoeilkaadnnoaaGreat.Index Go.Proofs.YtmoeilkaadnnoaaGreat.Reach Go.Proofs.YtmoeilkaadnnoaaGreat.Pick Go.Proofs.YtmoeilkaadnnoaaGreat.Fit
set_option linter.unusedVariables false
theorem last_out : ∀ {l : List S} {e : Int}, isSet e l = true → ∀ s ∈ l, has l s.2 = false
  | [], _, _, s, hs => by cases hs
  | x :: t, e, h, s, hs => by
    obtain ⟨h1, h2, h3, h4⟩ := (isSet_cons e x t).1 h
    rw [has_cons, Bool.or_eq_false_iff]
    rcases List.mem_cons.1 hs with rfl | hs
    · exact ⟨by simp, has_low h4 (Int.le_refl _)⟩
    · obtain ⟨g1, g2, _, _⟩ := mem_range h4 s hs
      exact ⟨by simp; omega, last_out h4 s hs⟩
theorem last_in {l : List S} {e : Int} (h : isSet e l = true) {s : S} (hs : s ∈ l) : has l (s.2 - 1) = true := by
  obtain ⟨h1, h2, _, _⟩ := mem_range h s hs
  exact (has_iff _ _).2 ⟨s, hs, by omega, by omega⟩
theorem end_at {l : List S} {p : Int} (h1 : has l (p - 1) = true) (h2 : has l p = false) : p ∈ l.map Prod.snd := by
  obtain ⟨x, hx, g1, g2⟩ := (has_iff _ _).1 h1
  have h3 : ¬ p < x.2 := fun g => by
    have : has l p = true := (has_iff _ _).2 ⟨x, hx, by omega, g⟩
    rw [h2] at this
    cases this
  exact List.mem_map.2 ⟨x, hx, by omega⟩
theorem ends_meet {a b : List S} (ha : isSet (-1) a = true) (hb : isSet (-1) b = true) {s : S} (hs : s ∈ meetS a b) : s.2 ∈ a.map Prod.snd ++ b.map Prod.snd := by
  have hm : isSet (-1) (meetS a b) = true := nf_set _
  have h1 := last_in hm hs
  have h2 := last_out hm s hs
  obtain ⟨g1, g2, g3, _⟩ := mem_range hm s hs
  rw [meet_both ha, Bool.and_eq_true] at h1
  rw [meet_both ha, Bool.and_eq_false_iff] at h2
  rw [List.mem_append]
  rcases h2 with h2 | h2
  · exact .inl (end_at h1.1 h2)
  · exact .inr (end_at h1.2 h2)
theorem ends_rise : ∀ {l : List S} {e : Int}, isSet e l = true → (l.map Prod.snd).Pairwise fun x y => x < y
  | [], _, _ => List.Pairwise.nil
  | x :: t, e, h => by
    obtain ⟨h1, h2, h3, h4⟩ := (isSet_cons e x t).1 h
    refine List.pairwise_cons.2 ⟨fun y hy => ?_, ends_rise h4⟩
    obtain ⟨s, hs, rfl⟩ := List.mem_map.1 hy
    obtain ⟨g1, g2, _, _⟩ := mem_range h4 s hs
    omega
theorem len_sub : ∀ {l m : List Int}, (l.Pairwise fun x y => x < y) → (∀ x ∈ l, x ∈ m) → l.length ≤ m.length
  | [], _, _, _ => Nat.zero_le _
  | x :: t, m, h, hm => by
    obtain ⟨h1, h2⟩ := List.pairwise_cons.1 h
    obtain ⟨m1, m2, rfl⟩ := List.append_of_mem (hm x (by simp))
    have key : t.length ≤ (m1 ++ m2).length := len_sub h2 fun y hy => by
      have h3 := hm y (by simp [hy])
      have h4 := h1 y hy
      rw [List.mem_append, List.mem_cons] at h3
      rw [List.mem_append]
      rcases h3 with h3 | h3 | h3
      · exact .inl h3
      · omega
      · exact .inr h3
    rw [List.length_append] at key
    simp only [List.length_append, List.length_cons]
    omega
theorem meet_len {a b : List S} (ha : isSet (-1) a = true) (hb : isSet (-1) b = true) : (meetS a b).length ≤ a.length + b.length := by
  have hm : isSet (-1) (meetS a b) = true := nf_set _
  have h := len_sub (ends_rise hm) (m := a.map Prod.snd ++ b.map Prod.snd) fun x hx => by
    obtain ⟨s, hs, rfl⟩ := List.mem_map.1 hx
    exact ends_meet ha hb hs
  simpa using h
theorem narrow_len {o : List S} (ho : isSet (-1) o = true) {L : List Nd} (hL : okS L = true) (a : ByteArray) : (narrow o (findS L a)).length ≤ o.length + 6 := by
  cases e : findS L a with
  | none => exact Nat.le_add_right _ _
  | some s =>
    obtain ⟨h1, h2⟩ := (okS_parts hL).2.2.2 _ (find_in e)
    have h3 : isSet (-1) s = true := h1
    have h4 : s.length ≤ 6 := h2
    have := meet_len ho h3
    show (meetS o s).length ≤ _
    omega
noncomputable def askF (X : List Kn) (a : ByteArray) (o : List S) (l : List Pk) : List S := l.foldl (fun o p => narrow o (findS (needsX X p.1 p.2) a)) o
theorem askF_next {X : List Kn} {a : ByteArray} {o : List S} {l : List Pk} {i : Nat} {q : Pk} (h : l[i]? = some q) : askF X a o (l.take (i + 1)) = narrow (askF X a o (l.take i)) (findS (needsX X q.1 q.2) a) := by
  unfold askF
  rw [take_snoc' l i q h, List.foldl_append]
  rfl
theorem askF_ok {X : List Kn} (hs : SetX X) (a : ByteArray) : ∀ (l : List Pk) {o : List S}, isSet (-1) o = true → isSet (-1) (askF X a o l) = true ∧ (askF X a o l).length ≤ o.length + 6 * l.length
  | [], o, ho => ⟨ho, Nat.le_refl _⟩
  | q :: t, o, ho => by
    have h1 := narrow_len ho (needs_ok hs q.1 q.2) a
    obtain ⟨h2, h3⟩ := askF_ok hs a t (narrow_set ho (findS (needsX X q.1 q.2) a))
    refine ⟨h2, ?_⟩
    show (askF X a (narrow o (findS (needsX X q.1 q.2) a)) t).length ≤ _
    rw [List.length_cons]
    omega
theorem asked_is (X : List Kn) (root : List Nd) (l : List Pk) (a : ByteArray) : askedX X root l a = askF X a (narrow allS (findS root a)) l := rfl
theorem asked_ok {X : List Kn} {root : List Nd} (hs : SetX X) (hr : okS root = true) (l : List Pk) (a : ByteArray) : isSet (-1) (askedX X root l a) = true ∧ (askedX X root l a).length ≤ 7 + 6 * l.length := by
  have h1 := narrow_len allS_set hr a
  obtain ⟨h2, h3⟩ := askF_ok hs a l (narrow_set allS_set (findS root a))
  rw [asked_is]
  refine ⟨h2, ?_⟩
  have : allS.length = 1 := rfl
  omega
end Go.Proofs.YtmoeilkaadnnoaaGreat.Plain
/-
  How many picks stand on the way of a search; what a search's rounds come to, from the midst of them. No program.
-/
namespace Go.Proofs.YtmoeilkaadnnoaaGreat.Plain
open Go Go.RowKit Go.Lib Go.Proofs.YtmoeilkaadnnoaaGreat.Label Go.Proofs.YtmoeilkaadnnoaaGreat.Span Go.Proofs.YtmoeilkaadnnoaaGreat.Need Go.Proofs.YtmoeilkaadnnoaaGreat.Mani Go.Proofs.YtmoeilkaadnnoaaGreat.Wire Go.Proofs.YtmoeilkaadnnoaaGreat.Depot Go.Proofs.YtmoeilkaadnnoaaGreat.Index Go.Proofs.YtmoeilkaadnnoaaGreat.Reach Go.Proofs.YtmoeilkaadnnoaaGreat.Pick Go.Proofs.YtmoeilkaadnnoaaGreat.Fit
set_option linter.unusedVariables false
section
variable {X : List Kn} {root : List Nd} {l : List Pk} {g f : Nat}
theorem on_dead (h : deadX X root l = true) : onX X root (g + 1) f l = (.nothing, f) := by rw [onX, h, if_pos rfl]
theorem on_done (h : deadX X root l = false) (hn : nextX X root l = none) : onX X root (g + 1) f l = (.found l, f) := by rw [onX, h, if_neg (by simp), hn]
theorem on_new (h : deadX X root l = false) {a : ByteArray} (hn : nextX X root l = some a) (hk : atX X a = none) : onX X root (g + 1) f l = (.lacks a, f) := by
  rw [onX, h, if_neg (by simp), hn]
  simp only [hk]
theorem on_old (h : deadX X root l = false) {a : ByteArray} (hn : nextX X root l = some a) {k : Kv} (hk : atX X a = some k) : onX X root (g + 1) f l = triesX (onX X root g) (fun v => putP l (a, v)) (downS k.1 (askedX X root l a)) f := by
  rw [onX, h, if_neg (by simp), hn]
  simp only [hk]
theorem next_short (hf : FineX X) (hr : ∀ q ∈ root, q.1.size ≤ 100) {a : ByteArray} (hn : nextX X root l = some a) : a.size ≤ 100 := by
  rcases (next_some hn).1 with h | ⟨p, hp, h⟩
  · obtain ⟨q, hq, rfl⟩ := List.mem_map.1 h
    exact hr q hq
  · obtain ⟨q, hq, rfl⟩ := List.mem_map.1 h
    unfold needsX relX at hq
    cases e : getR (getX X p.1).1 p.2 with
    | none => rw [e] at hq; cases hq
    | some r =>
      rw [e] at hq
      exact (((hf.get p.1).2 r (getR_mem e).1).2 q hq).1
end
end Go.Proofs.YtmoeilkaadnnoaaGreat.Plain
/-
  How many names may be needed by picks; the document's rounds, from the midst of one. No program.
-/
namespace Go.Proofs.YtmoeilkaadnnoaaGreat.Fit
open Go.RowKit Go.Lib Go.Proofs.YtmoeilkaadnnoaaGreat.Span Go.Proofs.YtmoeilkaadnnoaaGreat.Need Go.Proofs.YtmoeilkaadnnoaaGreat.Mani Go.Proofs.YtmoeilkaadnnoaaGreat.Wire Go.Proofs.YtmoeilkaadnnoaaGreat.Depot Go.Proofs.YtmoeilkaadnnoaaGreat.Index Go.Proofs.YtmoeilkaadnnoaaGreat.Reach Go.Proofs.YtmoeilkaadnnoaaGreat.Pick
set_option linter.unusedVariables false
theorem flat_six {α β : Type} (f : α → List β) : ∀ l : List α, (∀ a ∈ l, (f a).length ≤ 6) → (l.flatMap f).length ≤ 6 * l.length
  | [], _ => Nat.le_refl _
  | x :: t, h => by
    rw [List.flatMap_cons, List.length_append, List.length_cons]
    have h1 := h x (by simp)
    have h2 := flat_six f t fun a ha => h a (List.mem_cons_of_mem x ha)
    omega
section
variable {X : List Kn} {root : List Nd} {l : List Pk}
def midF (X : List Kn) (l : List Pk) (o : List ByteArray) (i : Nat) : List ByteArray := addsN o ((o.take i).flatMap (asksF X l))
theorem names_take {L : List Nd} {i : Nat} {q : Nd} (h : L[i]? = some q) : namesS (L.take (i + 1)) = namesS (L.take i) ++ [q.1] := by
  unfold namesS
  rw [take_snoc' L i q h, List.map_append]; rfl
end
end Go.Proofs.YtmoeilkaadnnoaaGreat.Fit
/-
  The plain search without recursion: frames of names that are tried, the newest first; what is asked of each name, step by step; what the search comes to from there, and what each step makes of that. No program.
-/
namespace Go.Proofs.YtmoeilkaadnnoaaGreat.Plain
open Go Go.RowKit Go.Lib Go.Proofs.YtmoeilkaadnnoaaGreat.Label Go.Proofs.YtmoeilkaadnnoaaGreat.Span Go.Proofs.YtmoeilkaadnnoaaGreat.Need Go.Proofs.YtmoeilkaadnnoaaGreat.Mani Go.Proofs.YtmoeilkaadnnoaaGreat.Wire Go.Proofs.YtmoeilkaadnnoaaGreat.Depot Go.Proofs.YtmoeilkaadnnoaaGreat.Index Go.Proofs.YtmoeilkaadnnoaaGreat.Reach Go.Proofs.YtmoeilkaadnnoaaGreat.Pick Go.Proofs.YtmoeilkaadnnoaaGreat.Fit
set_option linter.unusedVariables false
set_option linter.unusedSimpArgs false
/-! What is asked of a name, step by step. -/
noncomputable def inH (h : List (List S)) : List S := h.getLast?.getD allS
noncomputable def addH (h : List (List S)) : Option (List S) → List (List S)
  | none => h
  | some s => h ++ [meetS (inH h) s]
theorem inH_nil : inH [] = allS := rfl
theorem inH_snoc (h : List (List S)) (s : List S) : inH (h ++ [s]) = s := by simp [inH]
theorem inH_add (h : List (List S)) (o : Option (List S)) : inH (addH h o) = narrow (inH h) o := by
  cases o with
  | none => rfl
  | some s => exact inH_snoc _ _
theorem addH_ne {h : List (List S)} (o : Option (List S)) (hh : h ≠ []) : addH h o ≠ [] := by
  cases o with
  | none => exact hh
  | some s => simp [addH]
theorem addH_nil_iff {h : List (List S)} {o : Option (List S)} : addH h o ≠ [] ↔ h ≠ [] ∨ o.isSome = true := by
  cases o with
  | none => simp [addH]
  | some s => simp [addH]
theorem find_take {N : List Nd} {i : Nat} {q : Nd} (hr : Rises N) (h : N[i]? = some q) (a : ByteArray) : findS (N.take (i + 1)) a = if q.1 = a then some q.2 else findS (N.take i) a := by
  have hs := take_snoc' N i q h
  have hr2 : Rises (N.take (i + 1)) := List.Pairwise.sublist (List.take_sublist _ _) hr
  by_cases e : q.1 = a
  · rw [if_pos e, ← e]
    exact find_mem hr2 (by rw [hs]; simp)
  · rw [if_neg e, hs]
    generalize N.take i = t
    induction t with
    | nil => simp [findS, e]
    | cons x t ih => rw [List.cons_append, findS, findS, ih]
theorem find_take_self {N : List Nd} {i : Nat} {q : Nd} (hr : Rises N) (h : N[i]? = some q) : findS (N.take i) q.1 = none := by
  have hr2 : Rises (N.take (i + 1)) := List.Pairwise.sublist (List.take_sublist _ _) hr
  rw [take_snoc' N i q h] at hr2
  refine find_none fun p hp e => ?_
  have := (List.pairwise_append.1 hr2).2.2 p hp q (by simp)
  rw [e, nlt_self] at this
  cases this
theorem find_drop_self {N : List Nd} {i : Nat} {q : Nd} (hr : Rises N) (h : N[i]? = some q) : findS (N.drop (i + 1)) q.1 = none := by
  obtain ⟨hi, e⟩ := List.getElem?_eq_some_iff.1 h
  have hr2 : Rises (N.drop i) := List.Pairwise.sublist (List.drop_sublist _ _) hr
  rw [List.drop_eq_getElem_cons hi, e] at hr2
  exact find_above (List.pairwise_cons.1 hr2).1
theorem ask_step {N : List Nd} {i : Nat} {q : Nd} (hr : Rises N) (h : N[i]? = some q) (g : ByteArray → List (List S)) (a : ByteArray) :
    addH (g a) (findS (N.take (i + 1)) a) = if q.1 = a then addH (g a) (findS (N.take i) a) ++ [meetS (inH (addH (g a) (findS (N.take i) a))) q.2] else addH (g a) (findS (N.take i) a) := by
  rw [find_take hr h]
  by_cases e : q.1 = a
  · have e2 := find_take_self hr h
    rw [e] at e2
    rw [if_pos e, if_pos e, e2]
    rfl
  · rw [if_neg e, if_neg e]
theorem drop_step {N : List Nd} {i : Nat} {q : Nd} (hr : Rises N) (h : N[i]? = some q) (g : ByteArray → List (List S)) (a : ByteArray) :
    addH (g a) (findS (N.drop (i + 1)) a) = if q.1 = a then (addH (g a) (findS (N.drop i) a)).dropLast else addH (g a) (findS (N.drop i) a) := by
  have e1 := find_drop (n := a) h
  by_cases e : q.1 = a
  · have e2 := find_drop_self hr h
    rw [e] at e2
    rw [if_pos e] at e1 ⊢
    rw [e1, e2]
    simp [addH]
  · rw [if_neg e] at e1 ⊢
    rw [e1]
theorem drop_last {N : List Nd} {i : Nat} {q : Nd} (h : N[i]? = some q) (g : List (List S)) : ∃ s, addH g (findS (N.drop i) q.1) = g ++ [s] := by
  have e1 := find_drop (n := q.1) h
  rw [if_pos rfl] at e1
  rw [e1]
  exact ⟨_, rfl⟩
/-! The names that are open. -/
def OpenG (g : ByteArray → List (List S)) (P : List ByteArray) (O : List ByteArray) : Prop := RisesN O ∧ ∀ a, a ∈ O ↔ g a ≠ [] ∧ a ∉ P
theorem OpenG.congr {g g' : ByteArray → List (List S)} {P O : List ByteArray} (h : OpenG g P O) (e : ∀ a, g a = g' a) : OpenG g' P O := ⟨h.1, fun a => by rw [h.2, e]⟩
def insN (a : ByteArray) : List ByteArray → List ByteArray
  | [] => [a]
  | x :: t => if nlt x a = true then x :: insN a t else a :: x :: t
def atN (a : ByteArray) (O : List ByteArray) : Nat := (O.takeWhile fun x => nlt x a).length
theorem insN_at (a : ByteArray) : ∀ (O : List ByteArray), insN a O = O.take (atN a O) ++ a :: O.drop (atN a O)
  | [] => rfl
  | x :: t => by
    unfold atN
    rw [insN, List.takeWhile_cons]
    by_cases h : nlt x a = true
    · rw [if_pos h, if_pos h, insN_at a t]
      rfl
    · rw [if_neg h, if_neg h]
      rfl
theorem atN_le (a : ByteArray) (O : List ByteArray) : atN a O ≤ O.length := List.IsPrefix.length_le (List.takeWhile_prefix _)
theorem insN_mem {a z : ByteArray} : ∀ {O : List ByteArray}, z ∈ insN a O ↔ z = a ∨ z ∈ O
  | [] => by simp [insN]
  | x :: t => by
    rw [insN]
    split
    · rw [List.mem_cons, insN_mem, List.mem_cons]
      constructor
      · rintro (h | h | h)
        · exact .inr (.inl h)
        · exact .inl h
        · exact .inr (.inr h)
      · rintro (h | h | h)
        · exact .inr (.inl h)
        · exact .inl h
        · exact .inr (.inr h)
    · rw [List.mem_cons]
theorem insN_rises {a : ByteArray} : ∀ {O : List ByteArray}, RisesN O → a ∉ O → RisesN (insN a O)
  | [], _, _ => List.pairwise_singleton _ _
  | x :: t, h, hn => by
    obtain ⟨h1, h2⟩ := List.pairwise_cons.1 h
    rw [insN]
    by_cases e : nlt x a = true
    · rw [if_pos e]
      refine List.pairwise_cons.2 ⟨fun z hz => ?_, insN_rises h2 fun g => hn (List.mem_cons_of_mem _ g)⟩
      rcases insN_mem.1 hz with rfl | hz
      · exact e
      · exact h1 z hz
    · rw [if_neg e]
      have hxa : nlt a x = true := by
        rcases Pick.nlt_cases x a with h | h | h
        · exact absurd h e
        · exact absurd (by rw [h]; simp) hn
        · exact h
      exact List.pairwise_cons.2 ⟨fun z hz => by
        rcases List.mem_cons.1 hz with rfl | hz
        · exact hxa
        · exact nlt_trans hxa (h1 z hz), h⟩
theorem insN_len (a : ByteArray) : ∀ (O : List ByteArray), (insN a O).length = O.length + 1
  | [] => rfl
  | x :: t => by
    rw [insN]
    split
    · rw [List.length_cons, insN_len a t]; rfl
    · rfl
theorem atN_get {a : ByteArray} : ∀ {O : List ByteArray}, RisesN O → a ∈ O → O[atN a O]? = some a
  | [], _, h => by cases h
  | x :: t, h, hm => by
    obtain ⟨h1, h2⟩ := List.pairwise_cons.1 h
    unfold atN
    rw [List.takeWhile_cons]
    rcases List.mem_cons.1 hm with e | hm
    · rw [← e, nlt_self, if_neg (by simp)]
      rfl
    · rw [if_pos (h1 a hm), List.length_cons]
      exact atN_get h2 hm
def remN (a : ByteArray) (O : List ByteArray) : List ByteArray := O.filter fun x => decide (x ≠ a)
theorem remN_mem {a z : ByteArray} {O : List ByteArray} : z ∈ remN a O ↔ z ∈ O ∧ z ≠ a := by unfold remN; simp
theorem remN_rises {a : ByteArray} {O : List ByteArray} (h : RisesN O) : RisesN (remN a O) := List.Pairwise.filter _ h
theorem remN_none {a : ByteArray} {O : List ByteArray} (h : a ∉ O) : remN a O = O := by
  unfold remN
  rw [List.filter_eq_self]
  intro x hx
  simp only [decide_eq_true_eq]
  intro e
  exact h (e ▸ hx)
theorem remN_at {a : ByteArray} : ∀ {O : List ByteArray}, RisesN O → a ∈ O → remN a O = O.take (atN a O) ++ O.drop (atN a O + 1)
  | [], _, h => by cases h
  | x :: t, h, hm => by
    obtain ⟨h1, h2⟩ := List.pairwise_cons.1 h
    unfold atN
    rw [List.takeWhile_cons]
    by_cases e : x = a
    · subst e
      rw [nlt_self, if_neg (by simp)]
      have hn : x ∉ t := fun g => by
        have := h1 x g
        rw [nlt_self] at this
        cases this
      show (x :: t).filter _ = _
      rw [List.filter_cons_of_neg (by simp)]
      exact remN_none hn
    · have hm2 : a ∈ t := (List.mem_cons.1 hm).resolve_left fun g => e g.symm
      rw [if_pos (h1 a hm2), List.length_cons]
      show (x :: t).filter _ = _
      rw [List.filter_cons_of_pos (by simpa using e)]
      exact congrArg (x :: ·) (remN_at h2 hm2)
theorem OpenG.first {g g' : ByteArray → List (List S)} {P O : List ByteArray} (h : OpenG g P O) {x : ByteArray} (e1 : g x = []) (e2 : g' x ≠ []) (e3 : ∀ a, x ≠ a → g' a = g a) (hx : x ∉ P) : OpenG g' P (insN x O) := by
  have hn : x ∉ O := fun hm => ((h.2 x).1 hm).1 e1
  refine ⟨insN_rises h.1 hn, fun a => ?_⟩
  rw [insN_mem]
  by_cases e : x = a
  · subst e
    exact ⟨fun _ => ⟨e2, hx⟩, fun _ => .inl rfl⟩
  · rw [e3 a e, ← h.2]
    exact ⟨fun hh => hh.resolve_left fun g => e g.symm, .inr⟩
theorem OpenG.more {g g' : ByteArray → List (List S)} {P O : List ByteArray} (h : OpenG g P O) (e : ∀ a, g' a ≠ [] ↔ g a ≠ []) : OpenG g' P O := ⟨h.1, fun a => by rw [h.2, e]⟩
theorem OpenG.last {g g' : ByteArray → List (List S)} {P O : List ByteArray} (h : OpenG g P O) {x : ByteArray} (e2 : g' x = []) (e3 : ∀ a, x ≠ a → g' a = g a) : OpenG g' P (remN x O) := by
  refine ⟨remN_rises h.1, fun a => ?_⟩
  rw [remN_mem, h.2]
  by_cases e : x = a
  · subst e
    exact ⟨fun hh => absurd rfl hh.2, fun hh => absurd e2 hh.1⟩
  · rw [e3 a e]
    exact ⟨fun hh => hh.1, fun hh => ⟨hh, fun g => e g.symm⟩⟩
theorem OpenG.take_ {g : ByteArray → List (List S)} {P O : List ByteArray} {x : ByteArray} (h : OpenG g P (x :: O)) : OpenG g (x :: P) O := by
  obtain ⟨h1, h2⟩ := List.pairwise_cons.1 h.1
  refine ⟨h2, fun a => ?_⟩
  have h3 := h.2 a
  rw [List.mem_cons] at h3 ⊢
  constructor
  · intro hm
    have h4 := h3.1 (.inr hm)
    refine ⟨h4.1, fun hh => ?_⟩
    rcases hh with rfl | hh
    · have := h1 _ hm
      rw [nlt_self] at this
      cases this
    · exact h4.2 hh
  · rintro ⟨h4, h5⟩
    exact (h3.2 ⟨h4, fun hh => h5 (.inr hh)⟩).resolve_left fun e => h5 (.inl e)
theorem OpenG.back {g : ByteArray → List (List S)} {P O : List ByteArray} {x : ByteArray} (h : OpenG g (x :: P) O) (h1 : g x ≠ []) (h2 : x ∉ P) : OpenG g P (insN x O) := by
  have hn : x ∉ O := fun hm => ((h.2 x).1 hm).2 (by simp)
  refine ⟨insN_rises h.1 hn, fun a => ?_⟩
  rw [insN_mem, h.2, List.mem_cons]
  by_cases e : a = x
  · subst e
    exact ⟨fun _ => ⟨h1, h2⟩, fun _ => .inl rfl⟩
  · constructor
    · rintro (hh | ⟨h3, h4⟩)
      · exact absurd hh e
      · exact ⟨h3, fun g => h4 (.inr g)⟩
    · rintro ⟨h3, h4⟩
      exact .inr ⟨h3, fun g => g.elim e h4⟩
/-! Frames, the newest first: a name, what is picked of it, what is left. -/
abbrev Fr := ByteArray × Option Int × List Int
def needsF (X : List Kn) (t : Fr) : List Nd := match t.2.1 with
  | none => []
  | some v => needsX X t.1 v
def picksR : List Fr → List Pk
  | [] => []
  | t :: R => match t.2.1 with
    | none => picksR R
    | some v => putP (picksR R) (t.1, v)
def versR : List Fr → ByteArray → Option Int
  | [], _ => none
  | t :: R, a => if t.1 = a then t.2.1 else versR R a
noncomputable def histR (X : List Kn) (root : List Nd) : List Fr → ByteArray → List (List S)
  | [], a => addH [] (findS root a)
  | t :: R, a => addH (histR X root R a) (findS (needsF X t) a)
def namesR (R : List Fr) : List ByteArray := R.map Prod.fst
def Settled (R : List Fr) : Prop := ∀ t ∈ R, t.2.1.isSome = true
def OkR (X : List Kn) (root : List Nd) : List Fr → Prop
  | [] => True
  | t :: R => OkR X root R ∧ Settled R ∧ deadX X root (picksR R) = false ∧ nextX X root (picksR R) = some t.1 ∧ ∃ k, atX X t.1 = some k ∧ (∀ v, t.2.1 = some v → v ∈ downS k.1 (askedX X root (picksR R) t.1)) ∧ ∀ v ∈ t.2.2, v ∈ downS k.1 (askedX X root (picksR R) t.1)
section
variable {X : List Kn} {root : List Nd}
theorem needsF_ok (hset : SetX X) (t : Fr) : okS (needsF X t) = true := by
  unfold needsF
  cases t.2.1 with
  | none => rfl
  | some v => exact needs_ok hset _ _
theorem okR_way (hset : SetX X) (hver : VerX X) (hroot : okS root = true) : ∀ {R : List Fr}, OkR X root R → Way X root (picksR R)
  | [], _ => Way.nil X root
  | t :: R, h => by
    obtain ⟨h1, h2, h3, h4, k, h5, h6, h7⟩ := h
    have hw := okR_way hset hver hroot h1
    rw [picksR]
    cases e : t.2.1 with
    | none => exact hw
    | some v => exact hw.put hset hver hroot h4 h5 (h6 v e)
theorem picks_get (R : List Fr) (a : ByteArray) (hn : (namesR R).Nodup) : getP (picksR R) a = versR R a := by
  induction R with
  | nil => rfl
  | cons t R ih =>
    obtain ⟨h1, h2⟩ := List.nodup_cons.1 hn
    rw [picksR, versR]
    cases e : t.2.1 with
    | none =>
      show getP (picksR R) a = _
      rw [ih h2]
      by_cases g : t.1 = a
      · rw [if_pos g, ← g]
        clear ih h2 hn e
        induction R with
        | nil => rfl
        | cons u R ih2 =>
          rw [versR, if_neg fun e => h1 (by simp [namesR, e]), ih2 fun e => h1 (List.mem_cons_of_mem _ e)]
      · rw [if_neg g]
    | some v =>
      show getP (putP (picksR R) (t.1, v)) a = _
      rw [putP_get, ih h2]
theorem vers_some {R : List Fr} (hs : Settled R) {a : ByteArray} : (versR R a).isSome = true ↔ a ∈ namesR R := by
  induction R with
  | nil => simp [versR, namesR]
  | cons t R ih =>
    have ih2 := ih fun u hu => hs u (by simp [hu])
    rw [versR]
    unfold namesR at ih2 ⊢
    rw [List.map_cons, List.mem_cons]
    by_cases g : t.1 = a
    · rw [if_pos g]
      exact ⟨fun _ => .inl g.symm, fun _ => hs t (by simp)⟩
    · rw [if_neg g, ih2]
      exact ⟨.inr, fun h => h.resolve_left fun e => g e.symm⟩
theorem okR_nodup : ∀ {R : List Fr}, OkR X root R → (namesR R).Nodup
  | [], _ => List.nodup_nil
  | t :: R, h => by
    obtain ⟨h1, h2, h3, h4, _⟩ := h
    have hn := okR_nodup h1
    refine List.nodup_cons.2 ⟨fun hm => ?_, hn⟩
    have e1 := (next_some h4).2
    rw [picks_get R t.1 hn] at e1
    have e2 := (vers_some h2).2 hm
    rw [e1] at e2
    cases e2
theorem mem_picks {R : List Fr} (hn : (namesR R).Nodup) (hp : RisesP (picksR R)) {q : Pk} : q ∈ picksR R ↔ versR R q.1 = some q.2 := by
  rw [← picks_get R q.1 hn]
  exact ⟨getP_mem hp, getP_in⟩
theorem find_some_mem {L : List Nd} {a : ByteArray} : (findS L a).isSome = true ↔ a ∈ namesS L := by
  constructor
  · intro h
    obtain ⟨s, hs⟩ := Option.isSome_iff_exists.1 h
    exact List.mem_map.2 ⟨_, find_in hs, rfl⟩
  · intro h
    cases e : findS L a with
    | some s => rfl
    | none =>
      obtain ⟨q, hq, rfl⟩ := List.mem_map.1 h
      exfalso
      clear h
      induction L with
      | nil => cases hq
      | cons x t ih =>
        rw [findS] at e
        split at e
        · cases e
        · rename_i hx
          rcases List.mem_cons.1 hq with rfl | hq
          · exact hx rfl
          · exact ih hq e
theorem hist_ne (R : List Fr) (a : ByteArray) : histR X root R a ≠ [] ↔ a ∈ namesS root ∨ ∃ t ∈ R, a ∈ namesS (needsF X t) := by
  induction R with
  | nil =>
    rw [histR, addH_nil_iff, find_some_mem]
    simp
  | cons t R ih =>
    rw [histR, addH_nil_iff, ih, find_some_mem]
    simp only [List.mem_cons, exists_eq_or_imp]
    constructor
    · rintro ((h | h) | h)
      · exact .inl h
      · exact .inr (.inr h)
      · exact .inr (.inl h)
    · rintro (h | h | h)
      · exact .inl (.inl h)
      · exact .inr h
      · exact .inl (.inr h)
theorem frame_pick {R : List Fr} (hn : (namesR R).Nodup) {t : Fr} (ht : t ∈ R) : versR R t.1 = t.2.1 := by
  induction R with
  | nil => cases ht
  | cons u R ih =>
    obtain ⟨h1, h2⟩ := List.nodup_cons.1 hn
    rw [versR]
    rcases List.mem_cons.1 ht with rfl | ht
    · rw [if_pos rfl]
    · rw [if_neg fun e => h1 (by rw [e]; exact List.mem_map.2 ⟨t, ht, rfl⟩), ih h2 ht]
theorem vers_frame {R : List Fr} {a : ByteArray} {v : Int} (h : versR R a = some v) : ∃ t ∈ R, t.1 = a ∧ t.2.1 = some v := by
  induction R with
  | nil => cases h
  | cons u R ih =>
    rw [versR] at h
    split at h
    · rename_i e
      exact ⟨u, by simp, e, h⟩
    · obtain ⟨t, ht, g⟩ := ih h
      exact ⟨t, by simp [ht], g⟩
theorem frame_needs {R : List Fr} (hn : (namesR R).Nodup) (hp : RisesP (picksR R)) (P : List Nd → Prop) : (∃ t ∈ R, t.2.1.isSome = true ∧ P (needsF X t)) ↔ ∃ q ∈ picksR R, P (needsX X q.1 q.2) := by
  constructor
  · rintro ⟨t, ht, hs, h⟩
    obtain ⟨v, hv⟩ := Option.isSome_iff_exists.1 hs
    refine ⟨(t.1, v), (mem_picks hn hp).2 (by rw [frame_pick hn ht, hv]), ?_⟩
    unfold needsF at h
    rw [hv] at h
    exact h
  · rintro ⟨q, hq, h⟩
    obtain ⟨t, ht, e1, e2⟩ := vers_frame ((mem_picks hn hp).1 hq)
    refine ⟨t, ht, by rw [e2]; rfl, ?_⟩
    unfold needsF
    rw [e2, e1]
    exact h
theorem needsF_none {t : Fr} (h : t.2.1 = none) : needsF X t = [] := by unfold needsF; rw [h]
theorem hist_has (R : List Fr) (a : ByteArray) (p : Int) : isSet (-1) (inH (histR X root R a)) = true ∧ (has (inH (histR X root R a)) p = true ↔ (0 ≤ p ∧ p < 1000000000) ∧ (∀ x, findS root a = some x → has x p = true) ∧ ∀ t ∈ R, ∀ x, findS (needsF X t) a = some x → has x p = true) := by
  induction R with
  | nil =>
    rw [histR, inH_add, inH_nil]
    refine ⟨narrow_set allS_set _, ?_⟩
    rw [has_narrow allS_set, has_all]
    simp
  | cons t R ih =>
    rw [histR, inH_add]
    refine ⟨narrow_set ih.1 _, ?_⟩
    rw [has_narrow ih.1, ih.2]
    constructor
    · rintro ⟨⟨h1, h2, h3⟩, h4⟩
      refine ⟨h1, h2, fun u hu => ?_⟩
      rcases List.mem_cons.1 hu with rfl | hu
      · exact h4
      · exact h3 u hu
    · rintro ⟨h1, h2, h3⟩
      exact ⟨⟨h1, h2, fun u hu => h3 u (by simp [hu])⟩, h3 t (by simp)⟩
theorem asked_hist (hset : SetX X) (hver : VerX X) (hroot : okS root = true) {R : List Fr} (h : OkR X root R) (a : ByteArray) : askedX X root (picksR R) a = inH (histR X root R a) := by
  have hn := okR_nodup h
  have hp := (okP_iff.1 (okR_way hset hver hroot h).ok).1
  refine unique _ _ (-1) (asked_ok hset hroot _ _).1 (hist_has R a 0).1 fun p _ _ => ?_
  have h1 := asked_has (X := X) (root := root) (picksR R) a p
  have h2 := (hist_has (X := X) (root := root) R a p).2
  have h3 : (∀ q ∈ picksR R, ∀ x, findS (needsX X q.1 q.2) a = some x → has x p = true) ↔ ∀ t ∈ R, ∀ x, findS (needsF X t) a = some x → has x p = true := by
    constructor
    · intro g t ht x hx
      by_cases hs : t.2.1.isSome = true
      · obtain ⟨q, hq, e⟩ := (frame_needs hn hp (fun L => L = needsF X t)).1 ⟨t, ht, hs, rfl⟩
        exact g q hq x (by rw [e]; exact hx)
      · rw [needsF_none (by simpa using hs)] at hx
        cases hx
    · intro g q hq x hx
      obtain ⟨t, ht, _, e⟩ := (frame_needs hn hp (fun L => L = needsX X q.1 q.2)).2 ⟨q, hq, rfl⟩
      exact g t ht x (by rw [e]; exact hx)
  rw [h3, ← h2] at h1
  exact Bool.eq_iff_iff.2 h1
theorem hist_wants (hset : SetX X) (hver : VerX X) (hroot : okS root = true) {R : List Fr} (h : OkR X root R) (a : ByteArray) : histR X root R a ≠ [] ↔ a ∈ wantsX X root (picksR R) := by
  have hn := okR_nodup h
  have hp := (okP_iff.1 (okR_way hset hver hroot h).ok).1
  rw [hist_ne, (wants_ok _).2]
  refine or_congr Iff.rfl ?_
  rw [← frame_needs hn hp (fun L => a ∈ namesS L)]
  constructor
  · rintro ⟨t, ht, g⟩
    refine ⟨t, ht, ?_, g⟩
    cases e : t.2.1 with
    | some v => rfl
    | none =>
      rw [needsF_none e] at g
      cases g
  · rintro ⟨t, ht, _, g⟩
    exact ⟨t, ht, g⟩
theorem open_next (hset : SetX X) (hver : VerX X) (hroot : okS root = true) {R : List Fr} (h : OkR X root R) (hs : Settled R) {O : List ByteArray} (ho : OpenG (histR X root R) (namesR R) O) : nextX X root (picksR R) = O.head? := by
  have hn := okR_nodup h
  have e : O = (wantsX X root (picksR R)).filter fun a => (getP (picksR R) a).isNone := by
    refine rises_unique ho.1 (List.Pairwise.filter _ (wants_ok _).1) fun a => ?_
    rw [ho.2, List.mem_filter, hist_wants hset hver hroot h, picks_get R a hn]
    refine and_congr Iff.rfl ?_
    rw [← vers_some hs]
    cases versR R a <;> simp
  rw [e, List.head?_filter]
  rfl
theorem okR_hist (hset : SetX X) (hver : VerX X) (hroot : okS root = true) : ∀ {R : List Fr}, OkR X root R → ∀ a ∈ namesR R, histR X root R a ≠ []
  | [], _, a, ha => by cases ha
  | t :: R, h, a, ha => by
    have h0 := h
    obtain ⟨h1, h2, h3, h4, _⟩ := h
    rw [histR]
    refine addH_ne _ ?_
    rcases List.mem_cons.1 ha with rfl | ha
    · rw [hist_wants hset hver hroot h1, (wants_ok _).2]
      exact (next_some h4).1
    · exact okR_hist hset hver hroot h1 a ha
def metN (vf : ByteArray → Option Int) (N : List Nd) : Bool := N.all fun q => match vf q.1 with
  | none => true
  | some v => has q.2 v
theorem metN_take {vf : ByteArray → Option Int} {N : List Nd} {i : Nat} {q : Nd} (h : N[i]? = some q) : metN vf (N.take (i + 1)) = (metN vf (N.take i) && match vf q.1 with | none => true | some v => has q.2 v) := by
  unfold metN
  rw [take_snoc' N i q h, List.all_append]
  simp
theorem dead_met (hset : SetX X) (hver : VerX X) (hroot : okS root = true) {t : Fr} {R : List Fr} {v : Int} (h : OkR X root (t :: R)) (hv : t.2.1 = some v) : deadX X root (picksR (t :: R)) = !metN (versR (t :: R)) (needsF X t) := by
  have hn := okR_nodup h
  have hw := okR_way hset hver hroot h
  have hp := (okP_iff.1 hw.ok).1
  obtain ⟨h1, h2, h3, h4, k, h5, h6, h7⟩ := h
  have hn1 := okR_nodup h1
  have hw1 := okR_way hset hver hroot h1
  have hp1 := (okP_iff.1 hw1.ok).1
  have ea : needsF X t = needsX X t.1 v := by unfold needsF; rw [hv]
  have ho : okS (needsF X t) = true := needsF_ok hset t
  have hpick : picksR (t :: R) = putP (picksR R) (t.1, v) := by rw [picksR, hv]
  have key : deadX X root (picksR (t :: R)) = false ↔ metN (versR (t :: R)) (needsF X t) = true := by
    rw [alive]
    unfold metN
    rw [List.all_eq_true]
    constructor
    · intro g q hq
      cases e : versR (t :: R) q.1 with
      | none => rfl
      | some u =>
        have hm : (q.1, u) ∈ picksR (t :: R) := (mem_picks hn hp).2 e
        have g2 := ((asked_has _ _ _).1 (g _ hm)).2.2 (t.1, v) (by rw [hpick, put_mem hp1 (next_some h4).2]; exact .inl rfl) q.2
        exact g2 (by rw [← ea]; exact find_mem (okS_parts ho).2.2.1 hq)
    · intro g p hpm
      have hold : has (askedX X root (picksR R) p.1) p.2 = true := by
        rw [hpick, put_mem hp1 (next_some h4).2] at hpm
        rcases hpm with rfl | hpm
        · exact (downS_mem.1 (h6 v hv)).2
        · exact alive.1 h3 p hpm
      obtain ⟨g1, g2, g3⟩ := (asked_has _ _ _).1 hold
      refine (asked_has _ _ _).2 ⟨g1, g2, fun q hq x hx => ?_⟩
      rw [hpick, put_mem hp1 (next_some h4).2] at hq
      rcases hq with rfl | hq
      · have g4 := g _ (find_in (by rw [ea]; exact hx))
        simp only [] at g4
        have e := (mem_picks hn hp).1 hpm
        rw [e] at g4
        exact g4
      · exact g3 q hq x hx
  cases e : metN (versR (t :: R)) (needsF X t) with
  | true => rw [key.2 e]; rfl
  | false =>
    cases e2 : deadX X root (picksR (t :: R)) with
    | true => rfl
    | false => rw [key.1 e2] at e; cases e
theorem okR_len (hset : SetX X) (hver : VerX X) (hroot : okS root = true) {R : List Fr} (h : OkR X root R) : R.length ≤ X.length := by
  have h1 : ∀ z ∈ namesR R, z ∈ namesX X := by
    intro z hz
    obtain ⟨t, ht, rfl⟩ := List.mem_map.1 hz
    clear hz hset hver hroot
    induction R with
    | nil => cases ht
    | cons u R ih =>
      obtain ⟨h1, h2, h3, h4, k, h5, _⟩ := h
      rcases List.mem_cons.1 ht with rfl | ht
      · exact List.mem_map.2 ⟨_, atX_in h5, rfl⟩
      · exact ih h1 ht
  have h2 := okR_nodup h
  have h3 : ∀ {a b : List ByteArray}, a.Nodup → (∀ z ∈ a, z ∈ b) → a.length ≤ b.length := by
    intro a
    induction a with
    | nil => intro b _ _; exact Nat.zero_le _
    | cons x t ih =>
      intro b hn hs
      obtain ⟨s, u, rfl⟩ := List.append_of_mem (hs x (by simp))
      obtain ⟨h1, h2⟩ := List.nodup_cons.1 hn
      have := ih (b := s ++ u) h2 fun z hz => by
        have h3 := hs z (by simp [hz])
        simp only [List.mem_append, List.mem_cons] at h3 ⊢
        rcases h3 with h3 | rfl | h3
        · exact .inl h3
        · exact absurd hz h1
        · exact .inr h3
      simp only [List.length_append, List.length_cons] at this ⊢
      omega
  have h4 := h3 h2 h1
  unfold namesR namesX at h4
  simpa using h4
end
/-! What the search comes to. -/
section
variable (X : List Kn) (root : List Nd)
noncomputable def on1 (f : Nat) (l : List Pk) : Plain.Told × Nat := onX X root (f + 1) f l
noncomputable def resA : List Fr → Nat → Plain.Told
  | [], _ => .nothing
  | t :: R, f => match triesX (on1 X root) (fun v => putP (picksR R) (t.1, v)) t.2.2 f with
    | (.nothing, f') => resA R f'
    | (r, _) => r
noncomputable def resB (R : List Fr) (f : Nat) : Plain.Told := match on1 X root f (picksR R) with
  | (.nothing, f') => resA X root R f'
  | (r, _) => r
end
section
variable {X : List Kn} {root : List Nd}
theorem tries_alike {rec rec' : Nat → List Pk → Plain.Told × Nat} {put : Int → List Pk} : ∀ (L : List Int) (f : Nat), (∀ g l, g < f → rec g l = rec' g l ∧ (rec' g l).2 ≤ g) → triesX rec put L f = triesX rec' put L f ∧ (triesX rec' put L f).2 ≤ f
  | [], f, _ => ⟨rfl, Nat.le_refl _⟩
  | v :: t, f, h => by
    rw [triesX, triesX]
    by_cases h0 : f = 0
    · rw [if_pos h0, if_pos h0]
      exact ⟨rfl, Nat.zero_le _⟩
    · rw [if_neg h0, if_neg h0]
      obtain ⟨e1, e2⟩ := h (f - 1) (put v) (by omega)
      rw [e1]
      revert e2
      cases rec' (f - 1) (put v) with
      | mk r f' =>
        intro e2
        simp only at e2
        cases r with
        | nothing =>
          have := tries_alike (put := put) t f' fun g l hg => h g l (by omega)
          exact ⟨this.1, by have := this.2; simp only [] at *; omega⟩
        | found l => exact ⟨rfl, by simp only []; omega⟩
        | lacks a => exact ⟨rfl, by simp only []; omega⟩
        | broken a => exact ⟨rfl, by simp only []; omega⟩
        | spent => exact ⟨rfl, by simp only []; omega⟩
theorem on_depth : ∀ (f g : Nat) (l : List Pk), f < g → onX X root g f l = on1 X root f l ∧ (on1 X root f l).2 ≤ f := by
  intro f
  induction f using Nat.strongRecOn with
  | _ f ih =>
    intro g l hg
    obtain ⟨g', rfl⟩ : ∃ g', g = g' + 1 := ⟨g - 1, by omega⟩
    unfold on1
    cases hd : deadX X root l with
    | true => rw [on_dead hd, on_dead hd]; exact ⟨rfl, Nat.le_refl _⟩
    | false =>
      cases hn : nextX X root l with
      | none => rw [on_done hd hn, on_done hd hn]; exact ⟨rfl, Nat.le_refl _⟩
      | some a =>
        cases hk : atX X a with
        | none => rw [on_new hd hn hk, on_new hd hn hk]; exact ⟨rfl, Nat.le_refl _⟩
        | some k =>
          rw [on_old hd hn hk, on_old hd hn hk]
          have h1 := tries_alike (rec := onX X root g') (rec' := on1 X root) (put := fun v => putP l (a, v)) (downS k.1 (askedX X root l a)) f fun j m hj => ih j hj g' m (by omega)
          have h2 := tries_alike (rec := onX X root f) (rec' := on1 X root) (put := fun v => putP l (a, v)) (downS k.1 (askedX X root l a)) f fun j m hj => ih j hj f m (by omega)
          rw [h1.1, h2.1]
          exact ⟨rfl, h1.2⟩
theorem solve_res {fuel : Nat} (h1 : root.find? (fun q : Nd => (atX X q.1).isNone) = none) (h2 : root.find? (fun q : Nd => !(getX X q.1).2) = none) : solveX X root fuel = resB X root [] fuel := by
  unfold solveX resB
  rw [h1, h2]
  show (on1 X root fuel []).1 = _
  show _ = match on1 X root fuel [] with | (.nothing, f') => resA X root [] f' | (r, _) => r
  cases on1 X root fuel [] with
  | mk r f' => cases r <;> rfl
theorem resB_done {R : List Fr} {f : Nat} (hd : deadX X root (picksR R) = false) (hn : nextX X root (picksR R) = none) : resB X root R f = .found (picksR R) := by
  unfold resB on1
  rw [on_done hd hn]
theorem resB_lack {R : List Fr} {f : Nat} {a : ByteArray} (hd : deadX X root (picksR R) = false) (hn : nextX X root (picksR R) = some a) (hk : atX X a = none) : resB X root R f = .lacks a := by
  unfold resB on1
  rw [on_new hd hn hk]
theorem resB_push {R : List Fr} {f : Nat} {a : ByteArray} {k : Kv} (hd : deadX X root (picksR R) = false) (hn : nextX X root (picksR R) = some a) (hk : atX X a = some k) :
    resB X root R f = resA X root ((a, none, downS k.1 (askedX X root (picksR R) a)) :: R) f := by
  unfold resB
  rw [resA]
  show (match onX X root (f + 1) f (picksR R) with | (.nothing, f') => resA X root R f' | (r, _) => r) = _
  rw [on_old hd hn hk]
  have h2 := tries_alike (rec := onX X root f) (rec' := on1 X root) (put := fun v => putP (picksR R) (a, v)) (downS k.1 (askedX X root (picksR R) a)) f fun j m hj => on_depth j f m hj
  rw [h2.1]
theorem resB_dead {R : List Fr} {f : Nat} (hd : deadX X root (picksR R) = true) : resB X root R f = resA X root R f := by
  unfold resB on1
  rw [on_dead hd]
theorem resA_next {R : List Fr} {f : Nat} {a : ByteArray} {c : Option Int} {v : Int} {L : List Int} (hf : 0 < f) : resA X root ((a, c, v :: L) :: R) f = resB X root ((a, some v, L) :: R) (f - 1) := by
  unfold resB
  rw [resA]
  show (match triesX (on1 X root) (fun v => putP (picksR R) (a, v)) (v :: L) f with | (.nothing, f') => resA X root R f' | (r, _) => r) = (match on1 X root (f - 1) (putP (picksR R) (a, v)) with | (.nothing, f') => resA X root ((a, some v, L) :: R) f' | (r, _) => r)
  rw [triesX, if_neg (by omega)]
  cases on1 X root (f - 1) (putP (picksR R) (a, v)) with
  | mk r f' => cases r <;> rfl
end
end Go.Proofs.YtmoeilkaadnnoaaGreat.Plain
/-
  The least name that is wanted, by one that runs along: Next's mathematics for a program that collects nothing. No program.
-/
namespace Go.Proofs.YtmoeilkaadnnoaaGreat.Plain
open Go.RowKit Go.Lib Go.Proofs.YtmoeilkaadnnoaaGreat.Label Go.Proofs.YtmoeilkaadnnoaaGreat.Span Go.Proofs.YtmoeilkaadnnoaaGreat.Need Go.Proofs.YtmoeilkaadnnoaaGreat.Mani Go.Proofs.YtmoeilkaadnnoaaGreat.Wire Go.Proofs.YtmoeilkaadnnoaaGreat.Depot Go.Proofs.YtmoeilkaadnnoaaGreat.Index Go.Proofs.YtmoeilkaadnnoaaGreat.Reach Go.Proofs.YtmoeilkaadnnoaaGreat.Pick Go.Proofs.YtmoeilkaadnnoaaGreat.Fit
set_option linter.unusedVariables false
def lessO (f : ByteArray → Bool) (o : Option ByteArray) (a : ByteArray) : Option ByteArray := if f a = true then match o with
  | none => some a
  | some b => if nlt a b = true then some a else some b
  else o
theorem less_not {f : ByteArray → Bool} {o : Option ByteArray} {a : ByteArray} (h : f a = false) : lessO f o a = o := by unfold lessO; rw [if_neg (by simp [h])]
theorem less_none {f : ByteArray → Bool} {a : ByteArray} (h : f a = true) : lessO f none a = some a := by unfold lessO; rw [if_pos h]
theorem less_lt {f : ByteArray → Bool} {a b : ByteArray} (h : f a = true) (h' : nlt a b = true) : lessO f (some b) a = some a := by unfold lessO; rw [if_pos h]; simp only [h', if_true]
theorem less_ge {f : ByteArray → Bool} {a b : ByteArray} (h : f a = true) (h' : nlt a b = false) : lessO f (some b) a = some b := by unfold lessO; rw [if_pos h]; simp [h']
theorem less_add {f : ByteArray → Bool} (a : ByteArray) : ∀ {acc : List ByteArray}, RisesN acc → (addF a false acc).find? f = lessO f (acc.find? f) a
  | [], _ => by
    show ([a] : List ByteArray).find? f = _
    rw [List.find?_cons, List.find?_nil]
    cases h : f a with
    | true => rw [less_none h]
    | false => rw [less_not h]
  | y :: t, hr => by
    obtain ⟨h1, h2⟩ := List.pairwise_cons.1 hr
    rcases Pick.nlt_cases a y with h | rfl | h
    · rw [addF_lt h, addF_true, show [a, y] ++ t = a :: (y :: t) from rfl, List.find?_cons]
      cases g : f a with
      | false => rw [less_not g]
      | true =>
        cases e : (y :: t).find? f with
        | none => rw [less_none g]
        | some b =>
          refine (less_lt g ?_).symm
          rcases List.mem_cons.1 (List.mem_of_find?_eq_some e) with rfl | hb
          · exact h
          · exact nlt_trans h (h1 b hb)
    · rw [addF_eq rfl, addF_true, show [a] ++ t = a :: t from rfl]
      cases g : f a with
      | false => rw [less_not g]
      | true => rw [List.find?_cons, g, less_ge g (nlt_self a)]
    · rw [addF_gt h, show [y] ++ addF a false t = y :: addF a false t from rfl, List.find?_cons, List.find?_cons, less_add a h2]
      cases gy : f y with
      | false => rfl
      | true =>
        show some y = lessO f (some y) a
        cases g : f a with
        | false => rw [less_not g]
        | true => rw [less_ge g (nlt_asymm h)]
theorem less_adds {f : ByteArray → Bool} : ∀ (names : List ByteArray) {acc : List ByteArray}, RisesN acc → (addsN acc names).find? f = names.foldl (lessO f) (acc.find? f)
  | [], _, _ => rfl
  | a :: t, acc, hr => by
    show (addsN (addF a false acc) t).find? f = t.foldl (lessO f) (lessO f (acc.find? f) a)
    rw [less_adds t (addF_rises a hr), less_add a hr]
def leastF (X : List Kn) (f : ByteArray → Bool) (o : Option ByteArray) (l : List Pk) : Option ByteArray := l.foldl (fun o p => (namesS (needsX X p.1 p.2)).foldl (lessO f) o) o
theorem least_flat {X : List Kn} {f : ByteArray → Bool} : ∀ (l : List Pk) (o : Option ByteArray), (l.flatMap fun p => namesS (needsX X p.1 p.2)).foldl (lessO f) o = leastF X f o l
  | [], _ => rfl
  | p :: t, o => by
    rw [List.flatMap_cons, List.foldl_append, least_flat t]
    rfl
theorem next_is (X : List Kn) (root : List Nd) (l : List Pk) : nextX X root l = leastF X (fun a => (getP l a).isNone) ((namesS root).foldl (lessO fun a => (getP l a).isNone) none) l := by
  unfold nextX wantsX
  rw [less_adds _ (addsN_ok (namesS root) (out := []) List.Pairwise.nil).1, less_adds _ List.Pairwise.nil, least_flat]
  rfl
end Go.Proofs.YtmoeilkaadnnoaaGreat.Plain
