/-
  Some texts of this claim, one behind the other: FitMath, FitSets, FactMath, JudgeMath, FactTwin, FactLen, FitLen, FitBfs. What each proves, and its condition, stands at its head.
-/
import Derived.Test.YtdmejcfnolhplaaGreatDoorZC25
import Derived.Test.YtdmejcfnolhplaaGreatDoorZC26
import Derived.Test.YtdmejcfnolhplaaGreatDoorZC27
import Derived.Test.YtdmejcfnolhplaaGreatDoorZC14
import Derived.Test.YtdmejcfnolhplaaGreatDoorZC15
/-
  Plain mathematics of solutions: what is needed by picks; what is wrong with them; a solution stays one as more is known, its names are just those that are needed, without one of its picks it is none. No program.
-/
namespace Go.Proofs.YtdmejcfnolhplaaGreatDoor.Fit
open Go.RowKit Go.Lib Go.Proofs.YtdmejcfnolhplaaGreatDoor.Span Go.Proofs.YtdmejcfnolhplaaGreatDoor.Need Go.Proofs.YtdmejcfnolhplaaGreatDoor.Mani Go.Proofs.YtdmejcfnolhplaaGreatDoor.Wire Go.Proofs.YtdmejcfnolhplaaGreatDoor.Depot Go.Proofs.YtdmejcfnolhplaaGreatDoor.Index Go.Proofs.YtdmejcfnolhplaaGreatDoor.Reach Go.Proofs.YtdmejcfnolhplaaGreatDoor.Pick
set_option linter.unusedVariables false
def memB (x : ByteArray) (o : List ByteArray) : Bool := o.any fun y => decide (y = x)
theorem memB_iff {x : ByteArray} {o : List ByteArray} : memB x o = true ↔ x ∈ o := by
  unfold memB
  rw [List.any_eq_true]
  exact ⟨fun ⟨y, hy, e⟩ => by rw [← of_decide_eq_true e]; exact hy, fun h => ⟨x, h, decide_eq_true rfl⟩⟩
theorem memB_not {x : ByteArray} {o : List ByteArray} : memB x o = false ↔ x ∉ o := by
  rw [← memB_iff]; simp
def relX (X : List Kn) (a : ByteArray) (v : Int) : Option Rl := getR (getX X a).1 v
def needsX (X : List Kn) (a : ByteArray) (v : Int) : List Nd := ((relX X a v).getD (0, [])).2
def metP (l : List Pk) (q : Nd) : Bool := match getP l q.1 with
  | some v => has q.2 v
  | none => false
def asksF (X : List Kn) (l : List Pk) (a : ByteArray) : List ByteArray := match getP l a with
  | some v => namesS (needsX X a v)
  | none => []
theorem asks_pick {X : List Kn} {l : List Pk} {a z : ByteArray} (h : z ∈ asksF X l a) : ∃ v, getP l a = some v ∧ z ∈ namesS (needsX X a v) := by
  unfold asksF at h
  cases e : getP l a with
  | none => rw [e] at h; cases h
  | some v => rw [e] at h; exact ⟨v, rfl, h⟩
inductive MayF (X : List Kn) (root : List Nd) (l : List Pk) : ByteArray → Prop
  | root {a : ByteArray} (h : a ∈ namesS root) : MayF X root l a
  | ask {a b : ByteArray} (h : MayF X root l a) (k : b ∈ asksF X l a) : MayF X root l b
def stepF (X : List Kn) (l : List Pk) (o : List ByteArray) : List ByteArray := addsN o (o.flatMap (asksF X l))
def roundsF (X : List Kn) (l : List Pk) : Nat → List ByteArray → List ByteArray
  | 0, o => o
  | k + 1, o => roundsF X l k (stepF X l o)
def neededX (X : List Kn) (root : List Nd) (l : List Pk) : List ByteArray := roundsF X l (l.length + 1) (addsN [] (namesS root))
section
variable {X : List Kn} {root : List Nd} {l : List Pk}
theorem stepF_ok {o : List ByteArray} (h : RisesN o) : RisesN (stepF X l o) ∧ ∀ z, z ∈ stepF X l o ↔ z ∈ o ∨ ∃ a ∈ o, z ∈ asksF X l a := by
  obtain ⟨h1, h2⟩ := addsN_ok (o.flatMap (asksF X l)) h
  refine ⟨h1, fun z => ?_⟩
  unfold stepF
  rw [h2, List.mem_flatMap]
def ClosedF (X : List Kn) (l : List Pk) (o : List ByteArray) : Prop := ∀ a ∈ o, ∀ z ∈ asksF X l a, z ∈ o
theorem closed_step {o : List ByteArray} (hr : RisesN o) (h : ClosedF X l o) : ClosedF X l (stepF X l o) := by
  have e : ∀ z, z ∈ stepF X l o ↔ z ∈ o := fun z => by
    rw [(stepF_ok hr).2]
    exact ⟨fun k => k.elim id fun ⟨a, ha, hz⟩ => h a ha z hz, .inl⟩
  exact fun a ha z hz => (e z).2 (h a ((e a).1 ha) z hz)
theorem closed_rounds : ∀ (k : Nat) {o : List ByteArray}, RisesN o → ClosedF X l o → ClosedF X l (roundsF X l k o)
  | 0, _, _, h => h
  | k + 1, _, hr, h => closed_rounds k (stepF_ok hr).1 (closed_step hr h)
def cntF (l : List Pk) (o : List ByteArray) : Nat := (l.filter fun q : Pk => memB q.1 o).length
theorem cnt_le (o : List ByteArray) : cntF l o ≤ l.length := List.length_filter_le _ _
theorem cnt_mono : ∀ {l : List Pk} {o o' : List ByteArray}, (∀ z, z ∈ o → z ∈ o') → cntF l o ≤ cntF l o' ∧ (cntF l o = cntF l o' → ∀ q ∈ l, q.1 ∈ o' → q.1 ∈ o)
  | [], _, _, _ => ⟨Nat.le_refl _, fun _ q hq => by cases hq⟩
  | x :: t, o, o', h => by
    obtain ⟨h1, h2⟩ := cnt_mono (l := t) h
    unfold cntF at *
    by_cases g : x.1 ∈ o
    · have g' := h _ g
      rw [List.filter_cons_of_pos (p := fun q : Pk => memB q.1 o) (memB_iff.2 g), List.filter_cons_of_pos (p := fun q : Pk => memB q.1 o') (memB_iff.2 g')]
      refine ⟨by simpa using h1, fun e q hq hm => ?_⟩
      rcases List.mem_cons.1 hq with rfl | hq
      · exact g
      · exact h2 (by simpa using e) q hq hm
    · rw [List.filter_cons_of_neg (p := fun q : Pk => memB q.1 o) (by rw [memB_not.2 g]; simp)]
      by_cases g' : x.1 ∈ o'
      · rw [List.filter_cons_of_pos (p := fun q : Pk => memB q.1 o') (memB_iff.2 g')]
        exact ⟨by rw [List.length_cons]; omega, fun e => by rw [List.length_cons] at e; omega⟩
      · rw [List.filter_cons_of_neg (p := fun q : Pk => memB q.1 o') (by rw [memB_not.2 g']; simp)]
        refine ⟨h1, fun e q hq hm => ?_⟩
        rcases List.mem_cons.1 hq with rfl | hq
        · exact absurd hm g'
        · exact h2 e q hq hm
theorem closed_enough : ∀ (k : Nat) {o : List ByteArray}, RisesN o → l.length < cntF l o + k → ClosedF X l (roundsF X l k o)
  | 0, o, _, h => by have := cnt_le (l := l) o; omega
  | k + 1, o, hr, h => by
    obtain ⟨s1, s2⟩ := stepF_ok (X := X) (l := l) hr
    obtain ⟨c1, c2⟩ := cnt_mono (l := l) (o := o) (o' := stepF X l o) fun z hz => (s2 z).2 (.inl hz)
    by_cases e : cntF l o = cntF l (stepF X l o)
    · refine closed_rounds k s1 fun a ha z hz => ?_
      obtain ⟨v, hv, _⟩ := asks_pick hz
      exact (s2 z).2 (.inr ⟨a, c2 e (a, v) (getP_in hv) ha, hz⟩)
    · exact closed_enough k s1 (by omega)
theorem rounds_ok : ∀ (k : Nat) {o : List ByteArray}, RisesN o → RisesN (roundsF X l k o) ∧ (∀ z, z ∈ o → z ∈ roundsF X l k o)
  | 0, _, hr => ⟨hr, fun _ h => h⟩
  | k + 1, o, hr => by
    obtain ⟨s1, s2⟩ := stepF_ok (X := X) (l := l) hr
    obtain ⟨r1, r2⟩ := rounds_ok k s1
    exact ⟨r1, fun z hz => r2 z ((s2 z).2 (.inl hz))⟩
theorem rounds_may : ∀ (k : Nat) {o : List ByteArray}, RisesN o → (∀ z, z ∈ o → MayF X root l z) → ∀ z, z ∈ roundsF X l k o → MayF X root l z
  | 0, _, _, h => h
  | k + 1, o, hr, h => by
    obtain ⟨s1, s2⟩ := stepF_ok (X := X) (l := l) hr
    exact rounds_may k s1 fun z hz => ((s2 z).1 hz).elim (h z) fun ⟨a, ha, hk⟩ => .ask (h a ha) hk
theorem roots_ok (root : List Nd) : RisesN (addsN [] (namesS root)) ∧ ∀ z, z ∈ addsN [] (namesS root) ↔ z ∈ namesS root := by
  obtain ⟨h1, h2⟩ := addsN_ok (namesS root) (out := []) List.Pairwise.nil
  exact ⟨h1, fun z => by rw [h2]; simp⟩
def ReachesF (X : List Kn) (root : List Nd) (l : List Pk) (L : List ByteArray) : Prop := RisesN L ∧ ∀ z, z ∈ L ↔ MayF X root l z
theorem ReachesF.unique {L M : List ByteArray} (h : ReachesF X root l L) (k : ReachesF X root l M) : L = M := rises_unique h.1 k.1 fun z => (h.2 z).trans (k.2 z).symm
theorem needed_ok (X : List Kn) (root : List Nd) (l : List Pk) : ReachesF X root l (neededX X root l) := by
  obtain ⟨r1, r2⟩ := roots_ok root
  obtain ⟨k1, k2⟩ := rounds_ok (X := X) (l := l) (l.length + 1) r1
  have hc := closed_enough (X := X) (l := l) (l.length + 1) r1 (by omega)
  refine ⟨k1, fun z => ⟨fun hz => rounds_may _ r1 (fun y hy => .root ((r2 y).1 hy)) z hz, fun hz => ?_⟩⟩
  induction hz with
  | root h => exact k2 _ ((r2 _).2 h)
  | ask h k ih => exact hc _ ih _ k
def lacksX (X : List Kn) (p : Pk) : Bool := !(relX X p.1 p.2).isSome
def unmetX (X : List Kn) (l : List Pk) (p : Pk) : Bool := (needsX X p.1 p.2).any fun q => !metP l q
def wrongX (X : List Kn) (root : List Nd) (l : List Pk) : Int × ByteArray :=
  if okP l = false then (1, ByteArray.empty) else match root.find? fun q : Nd => !metP l q with
  | some q => (2, q.1)
  | none => match l.find? (lacksX X) with
    | some p => (3, p.1)
    | none => match l.find? (unmetX X l) with
      | some p => (4, p.1)
      | none => match l.find? fun p : Pk => !memB p.1 (neededX X root l) with
        | some p => (5, p.1)
        | none => (0, ByteArray.empty)
def solX (X : List Kn) (root : List Nd) (l : List Pk) : Bool := decide ((wrongX X root l).1 = 0)
theorem sol_iff : solX X root l = true ↔ okP l = true ∧ (∀ q ∈ root, metP l q = true) ∧ (∀ p ∈ l, (relX X p.1 p.2).isSome = true) ∧ (∀ p ∈ l, ∀ q ∈ needsX X p.1 p.2, metP l q = true) ∧ ∀ p ∈ l, p.1 ∈ neededX X root l := by
  unfold solX wrongX
  rw [decide_eq_true_iff]
  cases h1 : okP l with
  | false => simp
  | true =>
    rw [if_neg (by simp)]
    cases h2 : root.find? fun q : Nd => !metP l q with
    | some q =>
      have a1 := List.find?_some h2
      have a2 := List.mem_of_find?_eq_some h2
      refine ⟨fun h => absurd h (by simp), fun h => ?_⟩
      rw [h.2.1 q a2] at a1
      cases a1
    | none =>
      have b2 : ∀ q ∈ root, metP l q = true := by simpa using List.find?_eq_none.1 h2
      cases h3 : l.find? (lacksX X) with
      | some p =>
        have a1 := List.find?_some h3
        have a2 := List.mem_of_find?_eq_some h3
        refine ⟨fun h => absurd h (by simp), fun h => ?_⟩
        unfold lacksX at a1
        rw [h.2.2.1 p a2] at a1
        cases a1
      | none =>
        have b3 : ∀ p ∈ l, (relX X p.1 p.2).isSome = true := fun p hp => by
          have := List.find?_eq_none.1 h3 p hp
          unfold lacksX at this
          cases e : (relX X p.1 p.2).isSome with
          | true => rfl
          | false => rw [e] at this; exact absurd rfl this
        cases h4 : l.find? (unmetX X l) with
        | some p =>
          have a1 := List.find?_some h4
          have a2 := List.mem_of_find?_eq_some h4
          refine ⟨fun h => absurd h (by simp), fun h => ?_⟩
          unfold unmetX at a1
          obtain ⟨q, hq, hm⟩ := List.any_eq_true.1 a1
          rw [h.2.2.2.1 p a2 q hq] at hm
          cases hm
        | none =>
          have b4 : ∀ p ∈ l, ∀ q ∈ needsX X p.1 p.2, metP l q = true := fun p hp q hq => by
            have := List.find?_eq_none.1 h4 p hp
            unfold unmetX at this
            cases hm : metP l q with
            | true => rfl
            | false => exact absurd (List.any_eq_true.2 ⟨q, hq, by rw [hm]; rfl⟩) this
          cases h5 : l.find? fun p : Pk => !memB p.1 (neededX X root l) with
          | some p =>
            have a1 := List.find?_some h5
            have a2 := List.mem_of_find?_eq_some h5
            refine ⟨fun h => absurd h (by simp), fun h => ?_⟩
            rw [memB_iff.2 (h.2.2.2.2 p a2)] at a1
            cases a1
          | none =>
            have b5 : ∀ p ∈ l, p.1 ∈ neededX X root l := fun p hp => by
              have := List.find?_eq_none.1 h5 p hp
              refine memB_iff.1 ?_
              cases e : memB p.1 (neededX X root l) with
              | true => rfl
              | false => rw [e] at this; exact absurd rfl this
            exact ⟨fun _ => ⟨rfl, b2, b3, b4, b5⟩, fun _ => rfl⟩
theorem rel_known {a : ByteArray} {v : Int} (h : (relX X a v).isSome = true) : ∃ k, atX X a = some k := by
  unfold relX getX at h
  cases e : atX X a with
  | none => rw [e] at h; cases h
  | some k => exact ⟨k, rfl⟩
theorem get_stays (hr : RisesK X) (es : List En) {a : ByteArray} {k : Kv} (h : atX X a = some k) : getX (putsX X es) a = getX X a := by
  unfold getX
  rw [puts_stay hr h es, h]
end
end Go.Proofs.YtdmejcfnolhplaaGreatDoor.Fit
/-
  What is known has sets for what it needs. No program.
-/
namespace Go.Proofs.YtdmejcfnolhplaaGreatDoor.Fit
open Go.RowKit Go.Lib Go.Proofs.YtdmejcfnolhplaaGreatDoor.Span Go.Proofs.YtdmejcfnolhplaaGreatDoor.Need Go.Proofs.YtdmejcfnolhplaaGreatDoor.Mani Go.Proofs.YtdmejcfnolhplaaGreatDoor.Wire Go.Proofs.YtdmejcfnolhplaaGreatDoor.Depot Go.Proofs.YtdmejcfnolhplaaGreatDoor.Index Go.Proofs.YtdmejcfnolhplaaGreatDoor.Pick
set_option linter.unusedVariables false
def SetR (l : List Rl) : Prop := ∀ r ∈ l, okS r.2 = true
def SetX (X : List Kn) : Prop := ∀ q ∈ X, SetR q.2.1
theorem relE_sets (nm : ByteArray) (b : List UInt8) : SetR (relE nm b) := by
  unfold relE
  split
  · rename_i h
    unfold goodE at h
    simp only [Bool.and_eq_true, decide_eq_true_eq] at h
    have hok : okM (readB b).1 (readB b).2 = true := by
      unfold readB
      rw [if_pos h.1]
      have h0 := h.1
      unfold errB at h0
      split at h0
      · exact absurd h0 (by simp)
      · split at h0
        · rename_i e; exact absurd h0 e
        · split at h0
          · rename_i e; exact e
          · exact absurd h0 (by simp)
    simp only [okM, Bool.and_eq_true] at hok
    exact fun r hr => (okR_all hok.1 r hr).2.2
  · intro r hr; cases hr
theorem SetX.nil : SetX [] := fun q hq => by cases hq
theorem SetX.put {l : List Kn} (h : SetX l) (nm : ByteArray) (b : List UInt8) : SetX (putX l nm b) := by
  unfold putX
  split
  · intro q hq
    rcases (insX_mem _ _).1 hq with rfl | hq
    · exact relE_sets nm b
    · exact h q hq
  · exact h
theorem SetX.puts {l : List Kn} (h : SetX l) (es : List En) : SetX (putsX l es) := by
  induction es generalizing l with
  | nil => exact h
  | cons e t ih => exact ih (h.put e.1 e.2)
theorem SetX.get {l : List Kn} (h : SetX l) (nm : ByteArray) : SetR (getX l nm).1 := by
  unfold getX
  cases g : atX l nm with
  | none => exact fun r hr => by cases hr
  | some k => exact h _ (atX_in g)
theorem needs_ok {X : List Kn} (h : SetX X) (a : ByteArray) (v : Int) : okS (needsX X a v) = true := by
  unfold needsX relX
  cases g : getR (getX X a).1 v with
  | none => rfl
  | some r => exact h.get a r (getR_mem g).1
theorem needs_sets {X : List Kn} (h : SetX X) (a : ByteArray) (v : Int) : (needsX X a v).length ≤ 6 ∧ ∀ q ∈ needsX X a v, isSet (-1) q.2 = true ∧ q.2.length ≤ 6 :=
  ⟨(okS_parts (needs_ok h a v)).2.1, (okS_parts (needs_ok h a v)).2.2.2⟩
end Go.Proofs.YtdmejcfnolhplaaGreatDoor.Fit
/-
  Plain mathematics of facts: what root, and a known package, let be said of picks; of a solution no fact holds; picks of which none holds lack nothing. No program.
-/
namespace Go.Proofs.YtdmejcfnolhplaaGreatDoor.Fact
open Go.RowKit Go.Lib Go.Proofs.YtdmejcfnolhplaaGreatDoor.Label Go.Proofs.YtdmejcfnolhplaaGreatDoor.Span Go.Proofs.YtdmejcfnolhplaaGreatDoor.Need Go.Proofs.YtdmejcfnolhplaaGreatDoor.Mani Go.Proofs.YtdmejcfnolhplaaGreatDoor.Wire Go.Proofs.YtdmejcfnolhplaaGreatDoor.Depot Go.Proofs.YtdmejcfnolhplaaGreatDoor.Index Go.Proofs.YtdmejcfnolhplaaGreatDoor.Reach Go.Proofs.YtdmejcfnolhplaaGreatDoor.Pick Go.Proofs.YtdmejcfnolhplaaGreatDoor.Fit Go.Proofs.YtdmejcfnolhplaaGreatDoor.Term Go.Proofs.YtdmejcfnolhplaaGreatDoor.Clash
set_option linter.unusedVariables false
noncomputable def unmetT (n : ByteArray) (s : List S) : Tm := notT ⟨n, s, false⟩
def atS (v : Int) : List S := [(v, v + 1)]
theorem has_one {v p : Int} : has (atS v) p = decide (p = v) := by
  unfold has atS
  rw [Bool.eq_iff_iff]
  simp
  omega
noncomputable def askedC (root : List Nd) (n : ByteArray) : Option (List Tm) := match findS root n with
  | some s => makeC [unmetT n s]
  | none => none
noncomputable def releasedC (X : List Kn) (n : ByteArray) : Option (List Tm) := match atX X n with
  | some k => makeC [⟨n, notS (versS k.1), false⟩]
  | none => none
noncomputable def neededC (X : List Kn) (n : ByteArray) (v : Int) (b : ByteArray) : Option (List Tm) := match relX X n v with
  | some r => match findS r.2 b with
    | some s => makeC [⟨n, atS v, false⟩, unmetT b s]
    | none => none
  | none => none
noncomputable def rootC (root : List Nd) : List (List Tm) := root.map fun q => (askedC root q.1).getD []
noncomputable def allC (X : List Kn) (n : ByteArray) : List (List Tm) := match releasedC X n with
  | some c => c :: (getX X n).1.flatMap fun r => r.2.filterMap fun q => neededC X n r.1 q.1
  | none => []
section
variable {X : List Kn} {root : List Nd} {l : List Pk}
theorem ok_state (h : okP l = true) : OkSt (getP l) := fun n v hv => verOk_iff.1 ((okP_iff.1 h).2 _ (getP_in hv)).2
theorem unmet_holds (h : okP l = true) (n : ByteArray) (s : List S) : holdsT (getP l) (unmetT n s) = !metP l (n, s) := by
  unfold holdsT unmetT notT metP
  cases e : getP l n with
  | none => rfl
  | some v => exact n_has _ (ok_state h n v e).1 (ok_state h n v e).2
theorem unmet_some (n : ByteArray) (s : List S) : ∃ c, makeC [unmetT n s] = some c := by
  unfold makeC putsC
  have e : emptyT (unmetT n s) = false := rfl
  refine ⟨_, if_neg ?_⟩
  simp [putC, e]
theorem asked_holds (h : okP l = true) (hr : okS root = true) {q : Nd} (hq : q ∈ root) : ∃ c, askedC root q.1 = some c ∧ holdsC (getP l) c = !metP l q := by
  unfold askedC
  rw [find_mem (okS_parts hr).2.2.1 hq]
  obtain ⟨c, hc⟩ := unmet_some q.1 q.2
  refine ⟨c, hc, ?_⟩
  rw [make_holds (ok_state h) hc]
  show (holdsT (getP l) (unmetT q.1 q.2) && true) = _
  rw [unmet_holds h, Bool.and_true]
theorem vers_has (L : List Rl) {p : Int} (h0 : 0 ≤ p) (h1 : p < 1000000000) : has (versS L) p = inVers L p := nf_in _ h0 h1
theorem released_holds (h : okP l = true) {a : ByteArray} {k : Kv} (hk : atX X a = some k) {c : List Tm} (hc : releasedC X a = some c) : holdsC (getP l) c = match getP l a with | some v => !(relX X a v).isSome | none => false := by
  unfold releasedC at hc
  rw [hk] at hc
  rw [make_holds (ok_state h) hc]
  show (holdsT (getP l) ⟨a, notS (versS k.1), false⟩ && true) = _
  rw [Bool.and_true]
  unfold holdsT
  simp only []
  cases e : getP l a with
  | none => rfl
  | some v =>
    obtain ⟨h0, h1⟩ := ok_state h a v e
    show has (notS (versS k.1)) v = !(relX X a v).isSome
    rw [n_has _ h0 h1, vers_has _ h0 h1]
    congr 1
    unfold relX getX
    rw [hk, Bool.eq_iff_iff, inVers_iff]
    constructor
    · rintro ⟨q, hq, rfl⟩
      obtain ⟨r, hr⟩ := getR_some hq
      show (getR k.1 q.1).isSome = true
      rw [hr]; rfl
    · intro hi
      cases g : getR k.1 v with
      | none => simp only [Option.getD_some, g] at hi; cases hi
      | some r => exact ⟨r, (getR_mem g).1, (getR_mem g).2⟩
theorem needed_holds (h : okP l = true) {a : ByteArray} {v : Int} {b : ByteArray} {r : Rl} {s : List S} (hr : relX X a v = some r) (hs : findS r.2 b = some s) : (∀ c, neededC X a v b = some c → holdsC (getP l) c = (decide (getP l a = some v) && !metP l (b, s))) ∧ (neededC X a v b = none → (decide (getP l a = some v) && !metP l (b, s)) = false) := by
  have key : holdsC (getP l) [⟨a, atS v, false⟩, unmetT b s] = (decide (getP l a = some v) && !metP l (b, s)) := by
    show (holdsT (getP l) ⟨a, atS v, false⟩ && (holdsT (getP l) (unmetT b s) && true)) = _
    rw [unmet_holds h, Bool.and_true]
    congr 1
    unfold holdsT
    simp only []
    cases e : getP l a with
    | none => rfl
    | some u =>
      show has (atS v) u = _
      rw [has_one]
      simp
  unfold neededC
  rw [hr]
  simp only [hs]
  exact ⟨fun c hc => by rw [make_holds (ok_state h) hc]; exact key, fun hn => by rw [← key]; exact make_never (ok_state h) hn⟩
theorem sol_root (hr : okS root = true) (hs : solX X root l = true) : ∀ c ∈ rootC root, holdsC (getP l) c = false := by
  obtain ⟨h1, h2, h3, h4, h5⟩ := sol_iff.1 hs
  intro c hc
  obtain ⟨q, hq, rfl⟩ := List.mem_map.1 hc
  obtain ⟨c, hc, hh⟩ := asked_holds h1 hr hq
  rw [hc]
  show holdsC (getP l) c = false
  rw [hh, h2 q hq]; rfl
theorem all_cases {a : ByteArray} {c : List Tm} (hc : c ∈ allC X a) : releasedC X a = some c ∨ ∃ r ∈ (getX X a).1, ∃ q ∈ r.2, neededC X a r.1 q.1 = some c := by
  unfold allC at hc
  split at hc
  · rename_i d hd
    rcases List.mem_cons.1 hc with rfl | hc
    · exact .inl hd
    · obtain ⟨r, hr, hc⟩ := List.mem_flatMap.1 hc
      obtain ⟨q, hq, hc⟩ := List.mem_filterMap.1 hc
      exact .inr ⟨r, hr, q, hq, hc⟩
  · cases hc
theorem sol_all (hset : SetX X) (hs : solX X root l = true) (a : ByteArray) : ∀ c ∈ allC X a, holdsC (getP l) c = false := by
  obtain ⟨h1, h2, h3, h4, h5⟩ := sol_iff.1 hs
  intro c hc
  rcases all_cases hc with hc | ⟨r, hr, q, hq, hc⟩
  · cases hk : atX X a with
    | none => unfold releasedC at hc; rw [hk] at hc; cases hc
    | some k =>
      rw [released_holds h1 hk hc]
      cases e : getP l a with
      | none => rfl
      | some v => show (!(relX X a v).isSome) = false; rw [h3 _ (getP_in e)]; rfl
  · cases hrel : relX X a r.1 with
    | none => unfold neededC at hc; rw [hrel] at hc; cases hc
    | some r2 =>
      cases hf : findS r2.2 q.1 with
      | none => unfold neededC at hc; simp only [hrel, hf] at hc; cases hc
      | some s =>
        rw [(needed_holds h1 hrel hf).1 c hc]
        by_cases e : getP l a = some r.1
        · have hm := h4 _ (getP_in e) (q.1, s) (by unfold needsX; rw [hrel]; exact find_in hf)
          rw [hm]; simp
        · simp [e]
end
end Go.Proofs.YtdmejcfnolhplaaGreatDoor.Fact
/-
  Plain mathematics of judging: the clashes of steps; if one holds of picks, that of a fact does; if the last one is always so there is no solution; more known, the clashes are the same. No program.
-/
namespace Go.Proofs.YtdmejcfnolhplaaGreatDoor.Judge
open Go.RowKit Go.Lib Go.Proofs.YtdmejcfnolhplaaGreatDoor.Label Go.Proofs.YtdmejcfnolhplaaGreatDoor.Span Go.Proofs.YtdmejcfnolhplaaGreatDoor.Need Go.Proofs.YtdmejcfnolhplaaGreatDoor.Mani Go.Proofs.YtdmejcfnolhplaaGreatDoor.Wire Go.Proofs.YtdmejcfnolhplaaGreatDoor.Depot Go.Proofs.YtdmejcfnolhplaaGreatDoor.Index Go.Proofs.YtdmejcfnolhplaaGreatDoor.Reach Go.Proofs.YtdmejcfnolhplaaGreatDoor.Pick Go.Proofs.YtdmejcfnolhplaaGreatDoor.Fit Go.Proofs.YtdmejcfnolhplaaGreatDoor.Term Go.Proofs.YtdmejcfnolhplaaGreatDoor.Clash Go.Proofs.YtdmejcfnolhplaaGreatDoor.Fact Go.Proofs.YtdmejcfnolhplaaGreatDoor.Proof
set_option linter.unusedVariables false
noncomputable def oneC (X : List Kn) (root : List Nd) (s : Sp) (o : List (List Tm)) : Option (List Tm) :=
  if s.kind = 1 then askedC root s.name else if s.kind = 2 then releasedC X s.name else if s.kind = 3 then neededC X s.name s.ver s.dest else joinC ((o[s.a.toNat]?).getD []) ((o[s.b.toNat]?).getD []) s.name
noncomputable def clashC (X : List Kn) (root : List Nd) : List Sp → List (List Tm) → List (List Tm)
  | [], o => o
  | s :: r, o => match oneC X root s o with
    | some c => clashC X root r (o ++ [c])
    | none => o
section
variable {X : List Kn} {root : List Nd}
theorem clash_grows : ∀ (l : List Sp) (o : List (List Tm)), o <+: clashC X root l o ∧ (clashC X root l o).length ≤ o.length + l.length
  | [], o => ⟨List.prefix_refl _, Nat.le_refl _⟩
  | s :: r, o => by
    rw [clashC]
    cases e : oneC X root s o with
    | none => exact ⟨List.prefix_refl _, by simp⟩
    | some c =>
      obtain ⟨h1, h2⟩ := clash_grows r (o ++ [c])
      refine ⟨List.IsPrefix.trans (List.prefix_append o [c]) h1, ?_⟩
      simp only [List.length_append, List.length_cons, List.length_nil] at h2 ⊢
      omega
theorem clash_full : ∀ (l : List Sp) (o : List (List Tm)), (clashC X root l o).length = o.length + l.length → ∀ (i : Nat) (s : Sp), l[i]? = some s → ∃ c, (clashC X root l o)[o.length + i]? = some c ∧ oneC X root s ((clashC X root l o).take (o.length + i)) = some c
  | [], o, h, i, s, hs => by simp at hs
  | x :: r, o, h, i, s, hs => by
    rw [clashC] at h ⊢
    cases e : oneC X root x o with
    | none => rw [e] at h; simp at h
    | some c =>
      rw [e] at h
      simp only [] at h ⊢
      have hp := (clash_grows (X := X) (root := root) r (o ++ [c])).1
      cases i with
      | zero =>
        simp only [List.getElem?_cons_zero, Option.some.injEq] at hs
        subst hs
        obtain ⟨t, ht⟩ := hp
        refine ⟨c, ?_, ?_⟩
        · rw [← ht]; simp
        · rw [← ht]; simp [e]
      | succ i =>
        rw [List.getElem?_cons_succ] at hs
        obtain ⟨d, h1, h2⟩ := clash_full r (o ++ [c]) (by rw [h]; simp; omega) i s hs
        rw [List.length_append, List.length_cons, List.length_nil, show o.length + (0 + 1) + i = o.length + (i + 1) by omega] at h1 h2
        exact ⟨d, h1, h2⟩
theorem unmet_ok {n : ByteArray} (h : fitL (runes n 0) = true) (s : List S) : okT (unmetT n s) = true := by
  unfold okT unmetT notT
  simp only [h, Bool.true_and]
  exact nf_set _
theorem asked_ok {n : ByteArray} (h : fitL (runes n 0) = true) {c : List Tm} (hc : askedC root n = some c) : OkC c := by
  unfold askedC at hc
  split at hc
  · exact make_ok (fun t ht => by rw [List.mem_singleton.1 ht]; exact unmet_ok h _) hc
  · cases hc
theorem released_ok {n : ByteArray} (h : fitL (runes n 0) = true) {c : List Tm} (hc : releasedC X n = some c) : OkC c := by
  unfold releasedC at hc
  split at hc
  · refine make_ok (fun t ht => ?_) hc
    rw [List.mem_singleton.1 ht]
    unfold okT
    simp only [h, Bool.true_and]
    exact nf_set _
  · cases hc
theorem needed_okC {n b : ByteArray} {v : Int} (h : fitL (runes n 0) = true) (hb : fitL (runes b 0) = true) (hv : verOk v = true) {c : List Tm} (hc : neededC X n v b = some c) : OkC c := by
  unfold neededC at hc
  split at hc
  · split at hc
    · refine make_ok (fun t ht => ?_) hc
      rcases List.mem_cons.1 ht with rfl | ht
      · unfold okT atS
        have := verOk_iff.1 hv
        simp only [h, Bool.true_and]
        simp [isSet]
        omega
      · rw [List.mem_singleton.1 ht]; exact unmet_ok hb _
    · cases hc
  · cases hc
theorem clash_sound {l : List Sp} (hl : OkSteps l) (hf : (clashC X root l []).length = l.length) : ∀ (i : Nat) (c : List Tm), (clashC X root l [])[i]? = some c → OkC c ∧ ∀ q, OkSt q → holdsC q c = true → ∃ j s d, j ≤ i ∧ l[j]? = some s ∧ s.kind ≠ 4 ∧ (clashC X root l [])[j]? = some d ∧ holdsC q d = true := by
  intro i
  induction i using Nat.strongRecOn with
  | _ i ih =>
    intro c hc
    obtain ⟨hlt, _⟩ := List.getElem?_eq_some_iff.1 hc
    obtain ⟨s, hs⟩ : ∃ s, l[i]? = some s := ⟨l[i]'(by omega), by simp⟩
    obtain ⟨d, h1, h2⟩ := clash_full l [] (by simpa using hf) i s hs
    simp only [List.length_nil, Nat.zero_add] at h1 h2
    rw [hc] at h1
    injection h1 with h1
    subst h1
    have hm := hl i s hs
    have hm2 := hm
    unfold mayS at hm2
    simp only [Bool.and_eq_true, decide_eq_true_eq] at hm2
    obtain ⟨⟨⟨hk, hn⟩, hd⟩, _⟩ := hm2
    unfold oneC at h2
    by_cases k4 : s.kind = 4
    · rw [if_neg (by omega), if_neg (by omega), if_neg (by omega)] at h2
      have hj := may_joined hm k4
      obtain ⟨x, hx⟩ : ∃ x, (clashC X root l [])[s.a.toNat]? = some x := ⟨(clashC X root l [])[s.a.toNat]'(by omega), by simp⟩
      obtain ⟨y, hy⟩ : ∃ y, (clashC X root l [])[s.b.toNat]? = some y := ⟨(clashC X root l [])[s.b.toNat]'(by omega), by simp⟩
      rw [List.getElem?_take_of_lt (by omega), List.getElem?_take_of_lt (by omega), hx, hy] at h2
      have ix := ih s.a.toNat (by omega) x hx
      have iy := ih s.b.toNat (by omega) y hy
      obtain ⟨g1, g2⟩ := join_sound ix.1 iy.1 h2
      refine ⟨g1, fun q hq hh => ?_⟩
      rcases g2 q hq hh with g | g
      · obtain ⟨j, s', d, e1, e2⟩ := ix.2 q hq g
        exact ⟨j, s', d, by omega, e2⟩
      · obtain ⟨j, s', d, e1, e2⟩ := iy.2 q hq g
        exact ⟨j, s', d, by omega, e2⟩
    · refine ⟨?_, fun q hq hh => ⟨i, s, c, Nat.le_refl _, hs, k4, hc, hh⟩⟩
      by_cases k1 : s.kind = 1
      · rw [if_pos k1] at h2; exact asked_ok hn h2
      · rw [if_neg k1] at h2
        by_cases k2 : s.kind = 2
        · rw [if_pos k2] at h2; exact released_ok hn h2
        · have k3 : s.kind = 3 := by omega
          rw [if_neg k2, if_pos k3] at h2
          rw [if_pos k3] at hd
          simp only [Bool.and_eq_true] at hd
          exact needed_okC hn hd.1 hd.2 h2
theorem fact_never {l : List Pk} (hset : SetX X) (hr : okS root = true) (hsol : solX X root l = true) {s : Sp} {o : List (List Tm)} {c : List Tm} (hk : 1 ≤ s.kind ∧ s.kind ≤ 4) (k4 : s.kind ≠ 4) (hc : oneC X root s o = some c) : holdsC (getP l) c = false := by
  obtain ⟨h1, h2, h3, h4, h5⟩ := sol_iff.1 hsol
  unfold oneC at hc
  by_cases k1 : s.kind = 1
  · rw [if_pos k1] at hc
    cases hf : findS root s.name with
    | none => unfold askedC at hc; rw [hf] at hc; cases hc
    | some x =>
      refine sol_root hr hsol c (List.mem_map.2 ⟨(s.name, x), find_in hf, ?_⟩)
      show (askedC root s.name).getD [] = c
      rw [hc]; rfl
  · rw [if_neg k1] at hc
    by_cases k2 : s.kind = 2
    · rw [if_pos k2] at hc
      refine sol_all hset hsol s.name c ?_
      unfold allC
      rw [hc]
      exact List.mem_cons_self
    · rw [if_neg k2, if_pos (show s.kind = 3 by omega)] at hc
      cases hrel : relX X s.name s.ver with
      | none => unfold neededC at hc; rw [hrel] at hc; cases hc
      | some r =>
        cases hf : findS r.2 s.dest with
        | none => unfold neededC at hc; simp only [hrel, hf] at hc; cases hc
        | some x =>
          rw [(needed_holds h1 hrel hf).1 c hc]
          by_cases e : getP l s.name = some s.ver
          · have hm := h4 _ (getP_in e) (s.dest, x) (by unfold needsX; rw [hrel]; exact find_in hf)
            rw [hm]; simp
          · simp [e]
noncomputable def acceptC (X : List Kn) (root : List Nd) (l : List Sp) : Prop := OkSteps l ∧ 1 ≤ l.length ∧ (clashC X root l []).length = l.length ∧ (clashC X root l [])[l.length - 1]? = some []
theorem accept_sound (hset : SetX X) (hr : okS root = true) {s : List Sp} (h : acceptC X root s) (l : List Pk) : solX X root l = false := by
  obtain ⟨h1, h2, h3, h4⟩ := h
  cases hsol : solX X root l with
  | false => rfl
  | true =>
    obtain ⟨j, t, d, g1, g2, g3, g4, g5⟩ := (clash_sound h1 h3 _ _ h4).2 (getP l) (ok_state (sol_iff.1 hsol).1) rfl
    obtain ⟨e, e1, e2⟩ := clash_full s [] (by simpa using h3) j t g2
    simp only [List.length_nil, Nat.zero_add] at e1 e2
    rw [g4] at e1
    injection e1 with e1
    subst e1
    have hm := h1 j t g2
    unfold mayS at hm
    simp only [Bool.and_eq_true, decide_eq_true_eq] at hm
    rw [fact_never hset hr hsol hm.1.1.1 g3 e2] at g5
    cases g5
theorem one_stay (hrk : RisesK X) (es : List En) {s : Sp} {o : List (List Tm)} {c : List Tm} (hc : oneC X root s o = some c) : oneC (putsX X es) root s o = some c := by
  unfold oneC at hc ⊢
  by_cases k1 : s.kind = 1
  · rw [if_pos k1] at hc ⊢; exact hc
  · rw [if_neg k1] at hc ⊢
    by_cases k2 : s.kind = 2
    · rw [if_pos k2] at hc ⊢
      cases hk : atX X s.name with
      | none => unfold releasedC at hc; rw [hk] at hc; cases hc
      | some k =>
        unfold releasedC at hc ⊢
        rw [puts_stay hrk hk es]
        rw [hk] at hc
        exact hc
    · rw [if_neg k2] at hc ⊢
      by_cases k3 : s.kind = 3
      · rw [if_pos k3] at hc ⊢
        cases hrel : relX X s.name s.ver with
        | none => unfold neededC at hc; rw [hrel] at hc; cases hc
        | some r =>
          obtain ⟨k, hk⟩ := rel_known (show (relX X s.name s.ver).isSome = true by rw [hrel]; rfl)
          have e : relX (putsX X es) s.name s.ver = relX X s.name s.ver := by unfold relX; rw [get_stays hrk es hk]
          unfold neededC at hc ⊢
          rw [e]
          exact hc
      · rw [if_neg k3] at hc ⊢; exact hc
theorem clash_stay (hrk : RisesK X) (es : List En) : ∀ (l : List Sp) (o : List (List Tm)), (clashC X root l o).length = o.length + l.length → clashC (putsX X es) root l o = clashC X root l o
  | [], o, _ => rfl
  | s :: r, o, h => by
    rw [clashC, clashC]
    rw [clashC] at h
    cases e : oneC X root s o with
    | none => rw [e] at h; simp at h
    | some c =>
      rw [e] at h
      rw [one_stay hrk es e]
      simp only [] at h ⊢
      exact clash_stay hrk es r _ (by rw [h]; simp; omega)
theorem accept_grows (hrk : RisesK X) (es : List En) {s : List Sp} (h : acceptC X root s) : acceptC (putsX X es) root s := by
  obtain ⟨h1, h2, h3, h4⟩ := h
  unfold acceptC
  rw [clash_stay hrk es s [] (by simpa using h3)]
  exact ⟨h1, h2, h3, h4⟩
theorem pick_len {α : Type} {l : List Sp} {f : Nat → Option α} {N : Nat} (hf : ∀ i, i < N → (f i).isSome = usedT l i) : ∀ (n : Nat), n ≤ N → ((List.range n).filterMap f).length = atT l n
  | 0, _ => rfl
  | n + 1, h => by
    rw [List.range_succ, List.filterMap_append, List.length_append, pick_len hf n (by omega), at_succ]
    congr 1
    have := hf n (by omega)
    cases e : f n with
    | none => rw [e] at this; simp [e, ← this]
    | some x => rw [e] at this; simp [e, ← this]
theorem pick_at {α : Type} {l : List Sp} {f : Nat → Option α} {N : Nat} (hf : ∀ i, i < N → (f i).isSome = usedT l i) {i : Nat} {x : α} (hx : f i = some x) : ∀ (n : Nat), i < n → n ≤ N → ((List.range n).filterMap f)[atT l i]? = some x
  | 0, h, _ => by omega
  | n + 1, h, hn => by
    have hu : usedT l i = true := by rw [← hf i (by omega), hx]; rfl
    rw [List.range_succ, List.filterMap_append]
    by_cases g : i < n
    · rw [List.getElem?_append_left (by rw [pick_len hf n (by omega)]; exact at_lt hu g)]
      exact pick_at hf hx n g (by omega)
    · obtain rfl : i = n := by omega
      rw [List.getElem?_append_right (by rw [pick_len hf i (by omega)]; exact Nat.le_refl _), pick_len hf i (by omega), Nat.sub_self]
      simp [hx]
theorem clash_snoc : ∀ (l : List Sp) (o : List (List Tm)) {t : Sp} {c : List Tm}, (clashC X root l o).length = o.length + l.length → oneC X root t (clashC X root l o) = some c → clashC X root (l ++ [t]) o = clashC X root l o ++ [c]
  | [], o, t, c, h, hc => by
    have hc2 : oneC X root t o = some c := hc
    show clashC X root [t] o = o ++ [c]
    rw [clashC, hc2]
    rfl
  | s :: r, o, t, c, h, hc => by
    rw [clashC] at h hc
    rw [List.cons_append, clashC, clashC]
    cases e : oneC X root s o with
    | none => rw [e] at h; simp at h
    | some d =>
      rw [e] at h hc
      simp only [] at h hc ⊢
      exact clash_snoc r _ (by rw [h]; simp; omega) hc
theorem accept_trim {s : List Sp} (h : acceptC X root s) : acceptC X root (trimT s) := by
  obtain ⟨h1, h2, h3, h4⟩ := h
  obtain ⟨o, ho⟩ : ∃ o, o = clashC X root s [] := ⟨_, rfl⟩
  have hfull := clash_full s [] (by simpa using h3)
  simp only [List.length_nil, Nat.zero_add] at hfull
  rw [← ho] at h3 h4 hfull
  obtain ⟨f, hf0⟩ : ∃ f : Nat → Option (List Tm), f = fun i => if usedT s i = true then o[i]? else none := ⟨_, rfl⟩
  have hfx : ∀ i, usedT s i = true → f i = o[i]? := fun i hi => by rw [hf0]; exact if_pos hi
  have hf : ∀ i, i < s.length → (f i).isSome = usedT s i := fun i hi => by
    cases hu : usedT s i with
    | true => rw [hfx i hu, List.getElem?_eq_getElem (by omega)]; rfl
    | false => rw [hf0]; simp [hu]
  have key : ∀ n, n ≤ s.length → clashC X root ((List.range n).filterMap (leftT s)) [] = (List.range n).filterMap f := by
    intro n
    induction n with
    | zero => intro _; rfl
    | succ n ih =>
      intro hn
      have ih := ih (by omega)
      obtain ⟨t, ht⟩ : ∃ t, s[n]? = some t := ⟨s[n]'(by omega), by simp⟩
      have e : leftT s n = if usedT s n = true then some (reS s t) else none := by unfold leftT; rw [ht]
      rw [List.range_succ, List.filterMap_append, List.filterMap_append]
      cases hu : usedT s n with
      | false =>
        have e2 : f n = none := by rw [hf0]; simp [hu]
        simp [e, e2, hu, ih]
      | true =>
        obtain ⟨c, hc1, hc2⟩ := hfull n t ht
        have e2 : f n = some c := by rw [hfx n hu, hc1]
        have e3 : oneC X root (reS s t) ((List.range n).filterMap f) = some c := by
          rw [← hc2]
          have hm := h1 n t ht
          by_cases k4 : t.kind = 4
          · have hj := may_joined hm k4
            have hU := (used_iff h1 n).1 hu
            have ua := (used_iff h1 _).2 (.left hU ht k4)
            have ub := (used_iff h1 _).2 (.right hU ht k4)
            obtain ⟨x, hx⟩ : ∃ x, o[t.a.toNat]? = some x := ⟨o[t.a.toNat]'(by omega), by simp⟩
            obtain ⟨y, hy⟩ : ∃ y, o[t.b.toNat]? = some y := ⟨o[t.b.toNat]'(by omega), by simp⟩
            have px := pick_at hf (i := t.a.toNat) (x := x) (by rw [hfx _ ua, hx]) n (by omega) (by omega)
            have py := pick_at hf (i := t.b.toNat) (x := y) (by rw [hfx _ ub, hy]) n (by omega) (by omega)
            have r1 : (reS s t).kind = 4 := by rw [(re_kind t).1]; exact k4
            have r2 : (reS s t).a.toNat = atT s t.a.toNat := by unfold reS; rw [if_pos k4]; simp
            have r3 : (reS s t).b.toNat = atT s t.b.toNat := by unfold reS; rw [if_pos k4]; simp
            have r4 : (reS s t).name = t.name := (re_kind t).2.1
            unfold oneC
            rw [if_neg (by omega), if_neg (by omega), if_neg (by omega), if_neg (by omega), if_neg (by omega), if_neg (by omega), r2, r3, r4, px, py, List.getElem?_take_of_lt (by omega), List.getElem?_take_of_lt (by omega), hx, hy]
          · have r : reS s t = t := by unfold reS; rw [if_neg k4]
            rw [r]
            have hk := hm
            unfold mayS at hk
            simp only [Bool.and_eq_true, decide_eq_true_eq] at hk
            unfold oneC
            by_cases k1 : t.kind = 1
            · rw [if_pos k1, if_pos k1]
            · rw [if_neg k1, if_neg k1]
              by_cases k2 : t.kind = 2
              · rw [if_pos k2, if_pos k2]
              · rw [if_neg k2, if_neg k2, if_pos (show t.kind = 3 by omega), if_pos (show t.kind = 3 by omega)]
        have e4 : [n].filterMap (leftT s) = [reS s t] := by simp [e, hu]
        have e5 : [n].filterMap f = [c] := by simp [e2]
        rw [e4, e5, clash_snoc _ [] (by rw [ih, pick_len hf n (by omega), left_len n (by omega)]; simp) (by rw [ih]; exact e3), ih]
  have hall := key s.length (Nat.le_refl _)
  have hl := trim_last h1 h2
  refine ⟨trim_ok h1, hl.2, ?_, ?_⟩
  · show (clashC X root ((List.range s.length).filterMap (leftT s)) []).length = _
    rw [hall, pick_len hf _ (Nat.le_refl _), trim_len]
  · show (clashC X root ((List.range s.length).filterMap (leftT s)) [])[_]? = _
    rw [hall, hl.1]
    exact pick_at hf (by rw [hfx _ ((used_iff h1 _).2 .last), h4]) _ (by omega) (Nat.le_refl _)
end
end Go.Proofs.YtdmejcfnolhplaaGreatDoor.Judge
/-
  Plain mathematics of facts, as loops reckon them: facts with their steps, two by two; how many there are. No program.
-/
namespace Go.Proofs.YtdmejcfnolhplaaGreatDoor.Fact
open Go.RowKit Go.Lib Go.Proofs.YtdmejcfnolhplaaGreatDoor.Label Go.Proofs.YtdmejcfnolhplaaGreatDoor.Span Go.Proofs.YtdmejcfnolhplaaGreatDoor.Need Go.Proofs.YtdmejcfnolhplaaGreatDoor.Mani Go.Proofs.YtdmejcfnolhplaaGreatDoor.Wire Go.Proofs.YtdmejcfnolhplaaGreatDoor.Depot Go.Proofs.YtdmejcfnolhplaaGreatDoor.Index Go.Proofs.YtdmejcfnolhplaaGreatDoor.Reach Go.Proofs.YtdmejcfnolhplaaGreatDoor.Pick Go.Proofs.YtdmejcfnolhplaaGreatDoor.Fit Go.Proofs.YtdmejcfnolhplaaGreatDoor.Term Go.Proofs.YtdmejcfnolhplaaGreatDoor.Clash
set_option linter.unusedVariables false
abbrev Fa := List Tm × Proof.Sp
theorem at_one {v : Int} (h0 : 0 ≤ v) (h1 : v < 1000000000) : oneS v = atS v := oneS_some h0 h1
theorem one_ok {n : ByteArray} {s : List S} {z : Bool} (hn : fitL (runes n 0) = true) (hs : isSet (-1) s = true) : okT ⟨n, s, z⟩ = true := by
  unfold okT
  simp [hn, hs]
end Go.Proofs.YtdmejcfnolhplaaGreatDoor.Fact
/-
  How many spans a Not and the versions of releases have; what is known of an index that was put together: names that may be, versions in range. No program.
-/
namespace Go.Proofs.YtdmejcfnolhplaaGreatDoor.Fact
open Go.RowKit Go.Lib Go.Proofs.YtdmejcfnolhplaaGreatDoor.Label Go.Proofs.YtdmejcfnolhplaaGreatDoor.Span Go.Proofs.YtdmejcfnolhplaaGreatDoor.Need Go.Proofs.YtdmejcfnolhplaaGreatDoor.Mani Go.Proofs.YtdmejcfnolhplaaGreatDoor.Wire Go.Proofs.YtdmejcfnolhplaaGreatDoor.Depot Go.Proofs.YtdmejcfnolhplaaGreatDoor.Index Go.Proofs.YtdmejcfnolhplaaGreatDoor.Reach Go.Proofs.YtdmejcfnolhplaaGreatDoor.Pick Go.Proofs.YtdmejcfnolhplaaGreatDoor.Fit Go.Proofs.YtdmejcfnolhplaaGreatDoor.Term Go.Proofs.YtdmejcfnolhplaaGreatDoor.Clash
set_option linter.unusedVariables false
theorem end_out {l : List S} {p : Int} (h1 : has l (p - 1) = true) (h2 : has l p = false) : p ∈ l.map Prod.snd := by
  obtain ⟨x, hx, g1, g2⟩ := (has_iff _ _).1 h1
  have h3 : ¬ p < x.2 := fun g => by
    have : has l p = true := (has_iff _ _).2 ⟨x, hx, by omega, g⟩
    rw [h2] at this
    cases this
  exact List.mem_map.2 ⟨x, hx, by omega⟩
theorem not_len {a : List S} (ha : isSet (-1) a = true) : (notS a).length ≤ a.length + 1 := by
  have h := sorted_len ((notS a).map Prod.fst) (0 :: a.map Prod.snd) (starts_rise (nf_set _)) (fun x hx => by
    obtain ⟨s, hs, rfl⟩ := List.mem_map.1 hx
    obtain ⟨h1, h2⟩ := nf_before hs
    have h1' : (!has a s.1) = true := h1
    rcases h2 with h0 | h2
    · rw [h0]; exact List.mem_cons_self
    · have h2' : (!has a (s.1 - 1)) = false := h2
      refine List.mem_cons_of_mem _ (end_out ?_ ?_)
      · simpa using h2'
      · simpa using h1')
  simpa using h
theorem vers_len (l : List Rl) : (versS l).length ≤ l.length := by
  have h := sorted_len ((versS l).map Prod.fst) (l.map Prod.fst) (starts_rise (nf_set _)) (fun x hx => by
    obtain ⟨s, hs, rfl⟩ := List.mem_map.1 hx
    obtain ⟨h1, _⟩ := nf_before hs
    obtain ⟨q, hq, e⟩ := inVers_iff.1 h1
    exact List.mem_map.2 ⟨q, hq, e⟩)
  simpa using h
theorem vers_set (l : List Rl) : isSet (-1) (versS l) = true := nf_set _
theorem unmet_ok {n : ByteArray} (s : List S) (hn : fitL (runes n 0) = true) : okT (unmetT n s) = true := one_ok hn (nf_set _)
theorem unmet_len {n : ByteArray} {s : List S} (hs : isSet (-1) s = true) (h6 : s.length ≤ 6) : (unmetT n s).set.length ≤ 7 := by
  have := not_len hs
  show (notS s).length ≤ 7
  omega
def VerK (X : List Kn) : Prop := ∀ q ∈ X, ∀ r ∈ q.2.1, 0 ≤ r.1 ∧ r.1 < 1000000000
def FitX (X : List Kn) : Prop := ∀ q ∈ X, fitL (runes q.1 0) = true
def RisX (X : List Kn) : Prop := ∀ q ∈ X, RisesR q.2.1
structure OkX (X : List Kn) : Prop where
  fine : FineX X
  sets : SetX X
  vers : VerK X
  fits : FitX X
  few : X.length ≤ 100
  rise : RisX X
theorem relE_vers (nm : ByteArray) (b : List UInt8) : ∀ r ∈ relE nm b, 0 ≤ r.1 ∧ r.1 < 1000000000 := by
  unfold relE
  split
  · rename_i h
    unfold goodE at h
    simp only [Bool.and_eq_true, decide_eq_true_eq] at h
    have hok : okM (readB b).1 (readB b).2 = true := by
      unfold readB
      rw [if_pos h.1]
      have h0 := h.1
      unfold errB at h0
      split at h0
      · exact absurd h0 (by simp)
      · split at h0
        · rename_i e; exact absurd h0 e
        · split at h0
          · rename_i e; exact e
          · exact absurd h0 (by simp)
    simp only [okM, Bool.and_eq_true] at hok
    intro r hr
    have := okR_all hok.1 r hr
    exact ⟨by omega, this.2.1⟩
  · intro r hr; cases hr
theorem relE_rise (nm : ByteArray) (b : List UInt8) : RisesR (relE nm b) := by
  unfold relE
  split
  · rename_i h
    unfold goodE at h
    simp only [Bool.and_eq_true, decide_eq_true_eq] at h
    have hok : okM (readB b).1 (readB b).2 = true := by
      unfold readB
      rw [if_pos h.1]
      have h0 := h.1
      unfold errB at h0
      split at h0
      · exact absurd h0 (by simp)
      · split at h0
        · rename_i e; exact absurd h0 e
        · split at h0
          · rename_i e; exact e
          · exact absurd h0 (by simp)
    exact (okM_parts hok).2.1
  · exact List.Pairwise.nil
theorem RisX.nil : RisX [] := fun q hq => by cases hq
theorem RisX.put {l : List Kn} (h : RisX l) (nm : ByteArray) (b : List UInt8) : RisX (putX l nm b) := by
  unfold putX
  split
  · intro q hq
    rcases (insX_mem _ _).1 hq with rfl | hq
    · exact relE_rise nm b
    · exact h q hq
  · exact h
theorem RisX.puts {l : List Kn} (h : RisX l) (es : List En) : RisX (putsX l es) := by
  induction es generalizing l with
  | nil => exact h
  | cons e t ih => exact ih (h.put e.1 e.2)
theorem VerK.nil : VerK [] := fun q hq => by cases hq
theorem VerK.put {l : List Kn} (h : VerK l) (nm : ByteArray) (b : List UInt8) : VerK (putX l nm b) := by
  unfold putX
  split
  · intro q hq
    rcases (insX_mem _ _).1 hq with rfl | hq
    · exact relE_vers nm b
    · exact h q hq
  · exact h
theorem VerK.puts {l : List Kn} (h : VerK l) (es : List En) : VerK (putsX l es) := by
  induction es generalizing l with
  | nil => exact h
  | cons e t ih => exact ih (h.put e.1 e.2)
theorem FitX.nil : FitX [] := fun q hq => by cases hq
theorem FitX.put {l : List Kn} (h : FitX l) (nm : ByteArray) (b : List UInt8) : FitX (putX l nm b) := by
  unfold putX
  split
  · rename_i h0
    intro q hq
    rcases (insX_mem _ _).1 hq with rfl | hq
    · have := (errX_zero.1 h0).1
      unfold mayX at this
      simp only [Bool.and_eq_true] at this
      exact this.1
    · exact h q hq
  · exact h
theorem FitX.puts {l : List Kn} (h : FitX l) (es : List En) : FitX (putsX l es) := by
  induction es generalizing l with
  | nil => exact h
  | cons e t ih => exact ih (h.put e.1 e.2)
theorem known_fit {X : List Kn} (h : FitX X) {n : ByteArray} {k : Kv} (hk : atX X n = some k) : fitL (runes n 0) = true := h _ (atX_in hk)
theorem rel_known {X : List Kn} {n : ByteArray} {v : Int} {r : Rl} (h : relX X n v = some r) : ∃ k, atX X n = some k ∧ r ∈ k.1 ∧ r.1 = v := by
  unfold relX getX at h
  cases e : atX X n with
  | none => rw [e] at h; cases h
  | some k =>
    rw [e] at h
    exact ⟨k, rfl, (getR_mem h).1, (getR_mem h).2⟩
end Go.Proofs.YtdmejcfnolhplaaGreatDoor.Fact
/-
  How many names may be needed by picks; the document's rounds, from the midst of one. No program.
-/
namespace Go.Proofs.YtdmejcfnolhplaaGreatDoor.Fit
open Go.RowKit Go.Lib Go.Proofs.YtdmejcfnolhplaaGreatDoor.Span Go.Proofs.YtdmejcfnolhplaaGreatDoor.Need Go.Proofs.YtdmejcfnolhplaaGreatDoor.Mani Go.Proofs.YtdmejcfnolhplaaGreatDoor.Wire Go.Proofs.YtdmejcfnolhplaaGreatDoor.Depot Go.Proofs.YtdmejcfnolhplaaGreatDoor.Index Go.Proofs.YtdmejcfnolhplaaGreatDoor.Reach Go.Proofs.YtdmejcfnolhplaaGreatDoor.Pick
set_option linter.unusedVariables false
theorem flat_six {α β : Type} (f : α → List β) : ∀ l : List α, (∀ a ∈ l, (f a).length ≤ 6) → (l.flatMap f).length ≤ 6 * l.length
  | [], _ => Nat.le_refl _
  | x :: t, h => by
    rw [List.flatMap_cons, List.length_append, List.length_cons]
    have h1 := h x (by simp)
    have h2 := flat_six f t fun a ha => h a (List.mem_cons_of_mem x ha)
    omega
section
variable {X : List Kn} {root : List Nd} {l : List Pk}
theorem len_may {o : List ByteArray} (hs : SetX X) (hr : root.length ≤ 40) (hl : l.length ≤ 60) (ho : RisesN o) (hm : ∀ z, z ∈ o → MayF X root l z) : o.length ≤ 400 := by
  obtain ⟨u1, u2⟩ := addsN_ok (namesS root ++ l.flatMap fun p : Pk => namesS (needsX X p.1 p.2)) (out := []) List.Pairwise.nil
  have h1 := addsN_len [] (namesS root ++ l.flatMap fun p : Pk => namesS (needsX X p.1 p.2))
  have h2 := flat_six (fun p : Pk => namesS (needsX X p.1 p.2)) l fun p _ => by unfold namesS; rw [List.length_map]; exact (needs_sets hs p.1 p.2).1
  have h3 : (namesS root).length = root.length := by unfold namesS; rw [List.length_map]
  rw [List.length_append] at h1
  have h4 : o.length ≤ (addsN [] (namesS root ++ l.flatMap fun p : Pk => namesS (needsX X p.1 p.2))).length := (sub_of_rises ho u1 fun z hz => (u2 z).2 (.inr (by
    rw [List.mem_append]
    cases hm z hz with
    | root h => exact .inl h
    | ask h k =>
      obtain ⟨v, hv, hk⟩ := asks_pick k
      exact .inr (List.mem_flatMap.2 ⟨_, getP_in hv, hk⟩)))).length_le
  have h5 : ([] : List ByteArray).length = 0 := rfl
  omega
theorem asks_some {a : ByteArray} {v : Int} (h : getP l a = some v) : asksF X l a = namesS (needsX X a v) := by unfold asksF; rw [h]
theorem asks_none {a : ByteArray} (h : getP l a = none) : asksF X l a = [] := by unfold asksF; rw [h]
end
end Go.Proofs.YtdmejcfnolhplaaGreatDoor.Fit
/-
  Plain mathematics of the program's way to what picks need: names, one by one, in the order in which they are found; sorted, they are the list that rises. No program.
-/
namespace Go.Proofs.YtdmejcfnolhplaaGreatDoor.Fit
open Go Go.RowKit Go.Lib Go.Sort Go.Proofs.YtdmejcfnolhplaaGreatDoor.Span Go.Proofs.YtdmejcfnolhplaaGreatDoor.Need Go.Proofs.YtdmejcfnolhplaaGreatDoor.Mani Go.Proofs.YtdmejcfnolhplaaGreatDoor.Wire Go.Proofs.YtdmejcfnolhplaaGreatDoor.Depot Go.Proofs.YtdmejcfnolhplaaGreatDoor.Index Go.Proofs.YtdmejcfnolhplaaGreatDoor.Reach Go.Proofs.YtdmejcfnolhplaaGreatDoor.Pick
set_option linter.unusedVariables false
section
variable {X : List Kn} {root : List Nd} {l : List Pk} {L : List ByteArray} {d : Nat}
structure BfsF (X : List Kn) (root : List Nd) (l : List Pk) (L : List ByteArray) (d : Nat) : Prop where
  nodup : L.Nodup
  may : ∀ z, z ∈ L → MayF X root l z
  has : ∀ z, z ∈ namesS root → z ∈ L
  done : ∀ (i : Nat) (a : ByteArray), i < d → L[i]? = some a → ∀ z, z ∈ Fit.asksF X l a → z ∈ L
theorem bfsF_start (X : List Kn) (root : List Nd) (l : List Pk) : BfsF X root l (newF [] (namesS root)) 0 := by
  have hn := newF_nodup (acc := []) List.Pairwise.nil (namesS root)
  have hm := fun z => newF_mem (acc := []) (z := z) List.Pairwise.nil (namesS root)
  simp only [List.nil_append] at hn hm
  exact ⟨hn, fun z hz => .root (by simpa using (hm z).1 hz), fun z hz => (hm z).2 (.inr hz), fun i a hi => by omega⟩
theorem BfsF.step {a : ByteArray} (h : BfsF X root l L d) (ha : L[d]? = some a) : BfsF X root l (L ++ newF L (Fit.asksF X l a)) (d + 1) := by
  have hm := fun z => newF_mem (z := z) h.nodup (Fit.asksF X l a)
  have hd : d < L.length := (List.getElem?_eq_some_iff.1 ha).1
  refine ⟨newF_nodup h.nodup _, fun z hz => ?_, fun z hz => (hm z).2 (.inl (h.has z hz)), fun i b hi hb z hz => ?_⟩
  · rcases (hm z).1 hz with g | g
    · exact h.may z g
    · exact .ask (h.may a (List.mem_of_getElem? ha)) g
  · rw [List.getElem?_append_left (by omega)] at hb
    rcases Nat.lt_or_ge i d with g | g
    · exact (hm z).2 (.inl (h.done i b g hb z hz))
    · have e : i = d := by omega
      subst e
      rw [ha] at hb
      injection hb with hb
      subst hb
      exact (hm z).2 (.inr hz)
theorem BfsF.pass {a : ByteArray} (h : BfsF X root l L d) (ha : L[d]? = some a) (hn : getP l a = none) : BfsF X root l L (d + 1) := by
  have := h.step ha
  rw [asks_none hn] at this
  have e : newF L [] = [] := rfl
  rw [e, List.append_nil] at this
  exact this
theorem BfsF.go {a : ByteArray} {v : Int} (h : BfsF X root l L d) (ha : L[d]? = some a) (hv : getP l a = some v) : BfsF X root l (L ++ newF L (namesS (needsX X a v))) (d + 1) := by
  have := h.step ha
  rwa [asks_some hv] at this
theorem BfsF.len (h : BfsF X root l L d) (hs : SetX X) (hr : root.length ≤ 40) (hl : l.length ≤ 60) : L.length ≤ 400 := by
  have h1 := (foldN_perm h.nodup).length_eq
  have h2 := len_may hs hr hl (foldN_rises L) fun z hz => h.may z ((foldN_mem L).1 hz)
  omega
theorem BfsF.perm (h : BfsF X root l L L.length) : L.Perm (neededX X root l) := by
  have hr : ReachesF X root l (foldN L) := by
    refine ⟨foldN_rises L, fun z => ?_⟩
    rw [foldN_mem]
    refine ⟨h.may z, fun hz => ?_⟩
    induction hz with
    | root hr => exact h.has _ hr
    | ask _ hk ih =>
      obtain ⟨i, hi, e⟩ := List.getElem_of_mem ih
      exact h.done i _ hi (List.getElem?_eq_some_iff.2 ⟨hi, e⟩) _ hk
  rw [← hr.unique (needed_ok X root l)]
  exact (foldN_perm h.nodup).symm
theorem BfsF.sorted (h : BfsF X root l L L.length) : (L.map bytesOf).mergeSort (fun x y => decide (x ≤ y)) = (neededX X root l).map bytesOf := by
  have hlt : ((neededX X root l).map bytesOf).Pairwise (fun x y => x < y) := List.pairwise_map.2 ((needed_ok X root l).1.imp fun h => bytes_lt h)
  have h1 := mergeSort_of_perm (h.perm.map bytesOf)
  refine h1.trans ?_
  refine List.mergeSort_of_pairwise (hlt.imp fun h => ?_)
  simp only [leB, decide_eq_true_eq]
  exact List.le_of_lt h
theorem needs_fine {a : ByteArray} {v : Int} (hf : FineX X) {q : Nd} (hq : q ∈ needsX X a v) : q.1.size ≤ 100 := by
  unfold needsX relX at hq
  cases g : getR (getX X a).1 v with
  | none => rw [g] at hq; cases hq
  | some r =>
    rw [g] at hq
    exact (((hf.get a).2 r (getR_mem g).1).2 q hq).1
theorem mayF_short {z : ByteArray} (hf : FineX X) (hr : ∀ q ∈ root, q.1.size ≤ 100) (hz : MayF X root l z) : z.size ≤ 100 := by
  cases hz with
  | root hm =>
    obtain ⟨q, hq, rfl⟩ := List.mem_map.1 hm
    exact hr q hq
  | ask _ hk =>
    obtain ⟨v, hv, hz⟩ := asks_pick hk
    obtain ⟨q, hq, rfl⟩ := List.mem_map.1 hz
    exact needs_fine hf hq
end
end Go.Proofs.YtdmejcfnolhplaaGreatDoor.Fit
