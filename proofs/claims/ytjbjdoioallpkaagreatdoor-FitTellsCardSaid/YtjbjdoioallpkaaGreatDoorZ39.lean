/-
  Some texts of this claim, one behind the other: FitMath, FitSets, FitLen, FitBfs. What each proves, and its condition, stands at its head.
-/
import Derived.Test.YtjbjdoioallpkaaGreatDoorZ29
import Derived.Test.YtjbjdoioallpkaaGreatDoorZ14
import Derived.Test.YtjbjdoioallpkaaGreatDoorZ35
/-
  Plain mathematics of solutions: what is needed by picks; what is wrong with them; a solution stays one as more is known, its names are just those that are needed, without one of its picks it is none. No program.
-/
namespace Go.Proofs.YtjbjdoioallpkaaGreatDoor.Fit
open Go.RowKit Go.Lib Go.Proofs.YtjbjdoioallpkaaGreatDoor.Span Go.Proofs.YtjbjdoioallpkaaGreatDoor.Need Go.Proofs.YtjbjdoioallpkaaGreatDoor.Mani Go.Proofs.YtjbjdoioallpkaaGreatDoor.Wire Go.Proofs.YtjbjdoioallpkaaGreatDoor.Depot Go.Proofs.YtjbjdoioallpkaaGreatDoor.Index Go.Proofs.YtjbjdoioallpkaaGreatDoor.Reach Go.Proofs.YtjbjdoioallpkaaGreatDoor.Pick
set_option linter.unusedVariables false
/-- Is a name among names? -/
def memB (x : ByteArray) (o : List ByteArray) : Bool := o.any fun y => decide (y = x)
theorem memB_iff {x : ByteArray} {o : List ByteArray} : memB x o = true ↔ x ∈ o := by
  unfold memB
  rw [List.any_eq_true]
  exact ⟨fun ⟨y, hy, e⟩ => by rw [← of_decide_eq_true e]; exact hy, fun h => ⟨x, h, decide_eq_true rfl⟩⟩
theorem memB_not {x : ByteArray} {o : List ByteArray} : memB x o = false ↔ x ∉ o := by
  rw [← memB_iff]; simp
/-- The release that was picked. -/
def relX (X : List Kn) (a : ByteArray) (v : Int) : Option Rl := getR (getX X a).1 v
/-- What it needs. -/
def needsX (X : List Kn) (a : ByteArray) (v : Int) : List Nd := ((relX X a v).getD (0, [])).2
/-- Is a need met? -/
def metP (l : List Pk) (q : Nd) : Bool := match getP l q.1 with
  | some v => has q.2 v
  | none => false
theorem met_some {l : List Pk} {q : Nd} (h : metP l q = true) : ∃ v, getP l q.1 = some v := by
  unfold metP at h
  cases e : getP l q.1 with
  | none => rw [e] at h; cases h
  | some v => exact ⟨v, rfl⟩
/-- The names that the release picked of a name needs. -/
def asksF (X : List Kn) (l : List Pk) (a : ByteArray) : List ByteArray := match getP l a with
  | some v => namesS (needsX X a v)
  | none => []
theorem asks_pick {X : List Kn} {l : List Pk} {a z : ByteArray} (h : z ∈ asksF X l a) : ∃ v, getP l a = some v ∧ z ∈ namesS (needsX X a v) := by
  unfold asksF at h
  cases e : getP l a with
  | none => rw [e] at h; cases h
  | some v => rw [e] at h; exact ⟨v, rfl, h⟩
/-- What is needed. -/
inductive MayF (X : List Kn) (root : List Nd) (l : List Pk) : ByteArray → Prop
  | root {a : ByteArray} (h : a ∈ namesS root) : MayF X root l a
  | ask {a b : ByteArray} (h : MayF X root l a) (k : b ∈ asksF X l a) : MayF X root l b
/-- One round. -/
def stepF (X : List Kn) (l : List Pk) (o : List ByteArray) : List ByteArray := addsN o (o.flatMap (asksF X l))
def roundsF (X : List Kn) (l : List Pk) : Nat → List ByteArray → List ByteArray
  | 0, o => o
  | k + 1, o => roundsF X l k (stepF X l o)
theorem rounds_end (X : List Kn) (l : List Pk) : ∀ (k : Nat) (o : List ByteArray), roundsF X l (k + 1) o = stepF X l (roundsF X l k o)
  | 0, o => rfl
  | k + 1, o => by rw [roundsF, rounds_end X l k, roundsF]
/-- The document's way to what is needed. -/
def neededX (X : List Kn) (root : List Nd) (l : List Pk) : List ByteArray := roundsF X l (l.length + 1) (addsN [] (namesS root))
section
variable {X : List Kn} {root : List Nd} {l : List Pk}
theorem stepF_ok {o : List ByteArray} (h : RisesN o) : RisesN (stepF X l o) ∧ ∀ z, z ∈ stepF X l o ↔ z ∈ o ∨ ∃ a ∈ o, z ∈ asksF X l a := by
  obtain ⟨h1, h2⟩ := addsN_ok (o.flatMap (asksF X l)) h
  refine ⟨h1, fun z => ?_⟩
  unfold stepF
  rw [h2, List.mem_flatMap]
def ClosedF (X : List Kn) (l : List Pk) (o : List ByteArray) : Prop := ∀ a ∈ o, ∀ z ∈ asksF X l a, z ∈ o
theorem closed_step {o : List ByteArray} (hr : RisesN o) (h : ClosedF X l o) : ClosedF X l (stepF X l o) := by
  have e : ∀ z, z ∈ stepF X l o ↔ z ∈ o := fun z => by
    rw [(stepF_ok hr).2]
    exact ⟨fun k => k.elim id fun ⟨a, ha, hz⟩ => h a ha z hz, .inl⟩
  exact fun a ha z hz => (e z).2 (h a ((e a).1 ha) z hz)
theorem closed_rounds : ∀ (k : Nat) {o : List ByteArray}, RisesN o → ClosedF X l o → ClosedF X l (roundsF X l k o)
  | 0, _, _, h => h
  | k + 1, _, hr, h => closed_rounds k (stepF_ok hr).1 (closed_step hr h)
/-- How many picks' names stand in a list. -/
def cntF (l : List Pk) (o : List ByteArray) : Nat := (l.filter fun q : Pk => memB q.1 o).length
theorem cnt_le (o : List ByteArray) : cntF l o ≤ l.length := List.length_filter_le _ _
theorem cnt_mono : ∀ {l : List Pk} {o o' : List ByteArray}, (∀ z, z ∈ o → z ∈ o') → cntF l o ≤ cntF l o' ∧ (cntF l o = cntF l o' → ∀ q ∈ l, q.1 ∈ o' → q.1 ∈ o)
  | [], _, _, _ => ⟨Nat.le_refl _, fun _ q hq => by cases hq⟩
  | x :: t, o, o', h => by
    obtain ⟨h1, h2⟩ := cnt_mono (l := t) h
    unfold cntF at *
    by_cases g : x.1 ∈ o
    · have g' := h _ g
      rw [List.filter_cons_of_pos (p := fun q : Pk => memB q.1 o) (memB_iff.2 g), List.filter_cons_of_pos (p := fun q : Pk => memB q.1 o') (memB_iff.2 g')]
      refine ⟨by simpa using h1, fun e q hq hm => ?_⟩
      rcases List.mem_cons.1 hq with rfl | hq
      · exact g
      · exact h2 (by simpa using e) q hq hm
    · rw [List.filter_cons_of_neg (p := fun q : Pk => memB q.1 o) (by rw [memB_not.2 g]; simp)]
      by_cases g' : x.1 ∈ o'
      · rw [List.filter_cons_of_pos (p := fun q : Pk => memB q.1 o') (memB_iff.2 g')]
        exact ⟨by rw [List.length_cons]; omega, fun e => by rw [List.length_cons] at e; omega⟩
      · rw [List.filter_cons_of_neg (p := fun q : Pk => memB q.1 o') (by rw [memB_not.2 g']; simp)]
        refine ⟨h1, fun e q hq hm => ?_⟩
        rcases List.mem_cons.1 hq with rfl | hq
        · exact absurd hm g'
        · exact h2 e q hq hm
theorem closed_enough : ∀ (k : Nat) {o : List ByteArray}, RisesN o → l.length < cntF l o + k → ClosedF X l (roundsF X l k o)
  | 0, o, _, h => by have := cnt_le (l := l) o; omega
  | k + 1, o, hr, h => by
    obtain ⟨s1, s2⟩ := stepF_ok (X := X) (l := l) hr
    obtain ⟨c1, c2⟩ := cnt_mono (l := l) (o := o) (o' := stepF X l o) fun z hz => (s2 z).2 (.inl hz)
    by_cases e : cntF l o = cntF l (stepF X l o)
    · refine closed_rounds k s1 fun a ha z hz => ?_
      obtain ⟨v, hv, _⟩ := asks_pick hz
      exact (s2 z).2 (.inr ⟨a, c2 e (a, v) (getP_in hv) ha, hz⟩)
    · exact closed_enough k s1 (by omega)
theorem rounds_ok : ∀ (k : Nat) {o : List ByteArray}, RisesN o → RisesN (roundsF X l k o) ∧ (∀ z, z ∈ o → z ∈ roundsF X l k o)
  | 0, _, hr => ⟨hr, fun _ h => h⟩
  | k + 1, o, hr => by
    obtain ⟨s1, s2⟩ := stepF_ok (X := X) (l := l) hr
    obtain ⟨r1, r2⟩ := rounds_ok k s1
    exact ⟨r1, fun z hz => r2 z ((s2 z).2 (.inl hz))⟩
theorem rounds_may : ∀ (k : Nat) {o : List ByteArray}, RisesN o → (∀ z, z ∈ o → MayF X root l z) → ∀ z, z ∈ roundsF X l k o → MayF X root l z
  | 0, _, _, h => h
  | k + 1, o, hr, h => by
    obtain ⟨s1, s2⟩ := stepF_ok (X := X) (l := l) hr
    exact rounds_may k s1 fun z hz => ((s2 z).1 hz).elim (h z) fun ⟨a, ha, hk⟩ => .ask (h a ha) hk
theorem roots_ok (root : List Nd) : RisesN (addsN [] (namesS root)) ∧ ∀ z, z ∈ addsN [] (namesS root) ↔ z ∈ namesS root := by
  obtain ⟨h1, h2⟩ := addsN_ok (namesS root) (out := []) List.Pairwise.nil
  exact ⟨h1, fun z => by rw [h2]; simp⟩
/-- A list of names that has just what is needed. -/
def ReachesF (X : List Kn) (root : List Nd) (l : List Pk) (L : List ByteArray) : Prop := RisesN L ∧ ∀ z, z ∈ L ↔ MayF X root l z
theorem ReachesF.unique {L M : List ByteArray} (h : ReachesF X root l L) (k : ReachesF X root l M) : L = M := rises_unique h.1 k.1 fun z => (h.2 z).trans (k.2 z).symm
theorem needed_ok (X : List Kn) (root : List Nd) (l : List Pk) : ReachesF X root l (neededX X root l) := by
  obtain ⟨r1, r2⟩ := roots_ok root
  obtain ⟨k1, k2⟩ := rounds_ok (X := X) (l := l) (l.length + 1) r1
  have hc := closed_enough (X := X) (l := l) (l.length + 1) r1 (by omega)
  refine ⟨k1, fun z => ⟨fun hz => rounds_may _ r1 (fun y hy => .root ((r2 y).1 hy)) z hz, fun hz => ?_⟩⟩
  induction hz with
  | root h => exact k2 _ ((r2 _).2 h)
  | ask h k ih => exact hc _ ih _ k
/-- Is a pick's release lacked? Is one of its needs not met? -/
def lacksX (X : List Kn) (p : Pk) : Bool := !(relX X p.1 p.2).isSome
def unmetX (X : List Kn) (l : List Pk) (p : Pk) : Bool := (needsX X p.1 p.2).any fun q => !metP l q
/-- What is wrong. -/
def wrongX (X : List Kn) (root : List Nd) (l : List Pk) : Int × ByteArray :=
  if okP l = false then (1, ByteArray.empty) else match root.find? fun q : Nd => !metP l q with
  | some q => (2, q.1)
  | none => match l.find? (lacksX X) with
    | some p => (3, p.1)
    | none => match l.find? (unmetX X l) with
      | some p => (4, p.1)
      | none => match l.find? fun p : Pk => !memB p.1 (neededX X root l) with
        | some p => (5, p.1)
        | none => (0, ByteArray.empty)
def solX (X : List Kn) (root : List Nd) (l : List Pk) : Bool := decide ((wrongX X root l).1 = 0)
theorem sol_iff : solX X root l = true ↔ okP l = true ∧ (∀ q ∈ root, metP l q = true) ∧ (∀ p ∈ l, (relX X p.1 p.2).isSome = true) ∧ (∀ p ∈ l, ∀ q ∈ needsX X p.1 p.2, metP l q = true) ∧ ∀ p ∈ l, p.1 ∈ neededX X root l := by
  unfold solX wrongX
  rw [decide_eq_true_iff]
  cases h1 : okP l with
  | false => simp
  | true =>
    rw [if_neg (by simp)]
    cases h2 : root.find? fun q : Nd => !metP l q with
    | some q =>
      have a1 := List.find?_some h2
      have a2 := List.mem_of_find?_eq_some h2
      refine ⟨fun h => absurd h (by simp), fun h => ?_⟩
      rw [h.2.1 q a2] at a1
      cases a1
    | none =>
      have b2 : ∀ q ∈ root, metP l q = true := by simpa using List.find?_eq_none.1 h2
      cases h3 : l.find? (lacksX X) with
      | some p =>
        have a1 := List.find?_some h3
        have a2 := List.mem_of_find?_eq_some h3
        refine ⟨fun h => absurd h (by simp), fun h => ?_⟩
        unfold lacksX at a1
        rw [h.2.2.1 p a2] at a1
        cases a1
      | none =>
        have b3 : ∀ p ∈ l, (relX X p.1 p.2).isSome = true := fun p hp => by
          have := List.find?_eq_none.1 h3 p hp
          unfold lacksX at this
          cases e : (relX X p.1 p.2).isSome with
          | true => rfl
          | false => rw [e] at this; exact absurd rfl this
        cases h4 : l.find? (unmetX X l) with
        | some p =>
          have a1 := List.find?_some h4
          have a2 := List.mem_of_find?_eq_some h4
          refine ⟨fun h => absurd h (by simp), fun h => ?_⟩
          unfold unmetX at a1
          obtain ⟨q, hq, hm⟩ := List.any_eq_true.1 a1
          rw [h.2.2.2.1 p a2 q hq] at hm
          cases hm
        | none =>
          have b4 : ∀ p ∈ l, ∀ q ∈ needsX X p.1 p.2, metP l q = true := fun p hp q hq => by
            have := List.find?_eq_none.1 h4 p hp
            unfold unmetX at this
            cases hm : metP l q with
            | true => rfl
            | false => exact absurd (List.any_eq_true.2 ⟨q, hq, by rw [hm]; rfl⟩) this
          cases h5 : l.find? fun p : Pk => !memB p.1 (neededX X root l) with
          | some p =>
            have a1 := List.find?_some h5
            have a2 := List.mem_of_find?_eq_some h5
            refine ⟨fun h => absurd h (by simp), fun h => ?_⟩
            rw [memB_iff.2 (h.2.2.2.2 p a2)] at a1
            cases a1
          | none =>
            have b5 : ∀ p ∈ l, p.1 ∈ neededX X root l := fun p hp => by
              have := List.find?_eq_none.1 h5 p hp
              refine memB_iff.1 ?_
              cases e : memB p.1 (neededX X root l) with
              | true => rfl
              | false => rw [e] at this; exact absurd rfl this
            exact ⟨fun _ => ⟨rfl, b2, b3, b4, b5⟩, fun _ => rfl⟩
theorem mem_names {q : Pk} (h : q ∈ l) : q.1 ∈ l.map Prod.fst := List.mem_map.2 ⟨q, h, rfl⟩
/-- What a solution needs has a pick. -/
theorem sol_may {l : List Pk} (h2 : ∀ q ∈ root, metP l q = true) (h4 : ∀ p ∈ l, ∀ q ∈ needsX X p.1 p.2, metP l q = true) {z : ByteArray} (h : MayF X root l z) : ∃ v, getP l z = some v := by
  cases h with
  | root h =>
    obtain ⟨q, hq, rfl⟩ := List.mem_map.1 h
    exact met_some (h2 q hq)
  | ask h k =>
    obtain ⟨v, hv, hz⟩ := asks_pick k
    obtain ⟨q, hq, rfl⟩ := List.mem_map.1 hz
    exact met_some (h4 _ (getP_in hv) q hq)
/-- A solution's names are just those that are needed. -/
theorem sol_names (h : solX X root l = true) : neededX X root l = l.map Prod.fst := by
  obtain ⟨h1, h2, h3, h4, h5⟩ := sol_iff.1 h
  have hn := needed_ok X root l
  refine rises_unique hn.1 (List.pairwise_map.2 (okP_iff.1 h1).1) fun z => ⟨fun hz => ?_, fun hz => ?_⟩
  · obtain ⟨v, hv⟩ := sol_may h2 h4 ((hn.2 z).1 hz)
    exact mem_names (getP_in hv)
  · obtain ⟨p, hp, rfl⟩ := List.mem_map.1 hz
    exact h5 p hp
/-- Without any one of its picks it is none. -/
theorem sol_drop (h : solX X root l = true) {p : Pk} (hp : p ∈ l) : solX X root (dropP l p.1) = false := by
  obtain ⟨h1, h2, h3, h4, h5⟩ := sol_iff.1 h
  cases e : solX X root (dropP l p.1) with
  | false => rfl
  | true =>
    obtain ⟨g1, g2, g3, g4, g5⟩ := sol_iff.1 e
    have key : ∀ z, MayF X root l z → MayF X root (dropP l p.1) z := fun z hz => by
      induction hz with
      | root h => exact .root h
      | ask h k ih =>
        obtain ⟨v, hv, hk⟩ := asks_pick k
        obtain ⟨u, hu⟩ := sol_may g2 g4 ih
        refine .ask ih ?_
        have hd := dropP_get (l := l) p.1
        rename_i a b
        have ha := hd a
        rw [hu] at ha
        by_cases ea : a = p.1
        · rw [if_pos ea] at ha; cases ha
        · rw [if_neg ea] at ha
          unfold asksF
          rw [hu]
          rw [← ha] at hv
          injection hv with hv
          rw [hv]
          exact hk
    obtain ⟨v, hv⟩ := sol_may g2 g4 (key p.1 (((needed_ok X root l).2 p.1).1 (h5 p hp)))
    rw [dropP_get, if_pos rfl] at hv
    cases hv
/-- What a solution leans on stays as more is known. -/
theorem rel_known {a : ByteArray} {v : Int} (h : (relX X a v).isSome = true) : ∃ k, atX X a = some k := by
  unfold relX getX at h
  cases e : atX X a with
  | none => rw [e] at h; cases h
  | some k => exact ⟨k, rfl⟩
theorem get_stays (hr : RisesK X) (es : List En) {a : ByteArray} {k : Kv} (h : atX X a = some k) : getX (putsX X es) a = getX X a := by
  unfold getX
  rw [puts_stay hr h es, h]
theorem sol_grows (hr : RisesK X) (es : List En) (h : solX X root l = true) : solX (putsX X es) root l = true ∧ neededX (putsX X es) root l = neededX X root l := by
  obtain ⟨h1, h2, h3, h4, h5⟩ := sol_iff.1 h
  have hrel : ∀ p ∈ l, relX (putsX X es) p.1 p.2 = relX X p.1 p.2 := fun p hp => by
    obtain ⟨k, hk⟩ := rel_known (h3 p hp)
    unfold relX
    rw [get_stays hr es hk]
  have hneeds : ∀ p ∈ l, needsX (putsX X es) p.1 p.2 = needsX X p.1 p.2 := fun p hp => by unfold needsX; rw [hrel p hp]
  have hasks : asksF (putsX X es) l = asksF X l := by
    funext a
    unfold asksF
    cases e : getP l a with
    | none => rfl
    | some v =>
      show namesS (needsX (putsX X es) a v) = namesS (needsX X a v)
      rw [hneeds (a, v) (getP_in e)]
  have hstep : ∀ o, stepF (putsX X es) l o = stepF X l o := fun o => by unfold stepF; rw [hasks]
  have hro : ∀ k o, roundsF (putsX X es) l k o = roundsF X l k o := by
    intro k
    induction k with
    | zero => intro o; rfl
    | succ k ih => intro o; rw [roundsF, roundsF, hstep, ih]
  have hn : neededX (putsX X es) root l = neededX X root l := hro _ _
  refine ⟨sol_iff.2 ⟨h1, h2, fun p hp => by rw [hrel p hp]; exact h3 p hp, fun p hp q hq => h4 p hp q (by rwa [hneeds p hp] at hq), fun p hp => by rw [hn]; exact h5 p hp⟩, hn⟩
end
end Go.Proofs.YtjbjdoioallpkaaGreatDoor.Fit
/-
  What is known has sets for what it needs. No program.
-/
namespace Go.Proofs.YtjbjdoioallpkaaGreatDoor.Fit
open Go.RowKit Go.Lib Go.Proofs.YtjbjdoioallpkaaGreatDoor.Span Go.Proofs.YtjbjdoioallpkaaGreatDoor.Need Go.Proofs.YtjbjdoioallpkaaGreatDoor.Mani Go.Proofs.YtjbjdoioallpkaaGreatDoor.Wire Go.Proofs.YtjbjdoioallpkaaGreatDoor.Depot Go.Proofs.YtjbjdoioallpkaaGreatDoor.Index Go.Proofs.YtjbjdoioallpkaaGreatDoor.Pick
set_option linter.unusedVariables false
/-- Releases whose needs may be. -/
def SetR (l : List Rl) : Prop := ∀ r ∈ l, okS r.2 = true
def SetX (X : List Kn) : Prop := ∀ q ∈ X, SetR q.2.1
theorem relE_sets (nm : ByteArray) (b : List UInt8) : SetR (relE nm b) := by
  unfold relE
  split
  · rename_i h
    unfold goodE at h
    simp only [Bool.and_eq_true, decide_eq_true_eq] at h
    have hok : okM (readB b).1 (readB b).2 = true := by
      unfold readB
      rw [if_pos h.1]
      have h0 := h.1
      unfold errB at h0
      split at h0
      · exact absurd h0 (by simp)
      · split at h0
        · rename_i e; exact absurd h0 e
        · split at h0
          · rename_i e; exact e
          · exact absurd h0 (by simp)
    simp only [okM, Bool.and_eq_true] at hok
    exact fun r hr => (okR_all hok.1 r hr).2.2
  · intro r hr; cases hr
theorem SetX.nil : SetX [] := fun q hq => by cases hq
theorem SetX.put {l : List Kn} (h : SetX l) (nm : ByteArray) (b : List UInt8) : SetX (putX l nm b) := by
  unfold putX
  split
  · intro q hq
    rcases (insX_mem _ _).1 hq with rfl | hq
    · exact relE_sets nm b
    · exact h q hq
  · exact h
theorem SetX.puts {l : List Kn} (h : SetX l) (es : List En) : SetX (putsX l es) := by
  induction es generalizing l with
  | nil => exact h
  | cons e t ih => exact ih (h.put e.1 e.2)
theorem SetX.get {l : List Kn} (h : SetX l) (nm : ByteArray) : SetR (getX l nm).1 := by
  unfold getX
  cases g : atX l nm with
  | none => exact fun r hr => by cases hr
  | some k => exact h _ (atX_in g)
/-- What a pick's release needs may be. -/
theorem needs_ok {X : List Kn} (h : SetX X) (a : ByteArray) (v : Int) : okS (needsX X a v) = true := by
  unfold needsX relX
  cases g : getR (getX X a).1 v with
  | none => rfl
  | some r => exact h.get a r (getR_mem g).1
theorem needs_sets {X : List Kn} (h : SetX X) (a : ByteArray) (v : Int) : (needsX X a v).length ≤ 6 ∧ ∀ q ∈ needsX X a v, isSet (-1) q.2 = true ∧ q.2.length ≤ 6 :=
  ⟨(okS_parts (needs_ok h a v)).2.1, (okS_parts (needs_ok h a v)).2.2.2⟩
end Go.Proofs.YtjbjdoioallpkaaGreatDoor.Fit
/-
  How many names may be needed by picks; the document's rounds, from the midst of one. No program.
-/
namespace Go.Proofs.YtjbjdoioallpkaaGreatDoor.Fit
open Go.RowKit Go.Lib Go.Proofs.YtjbjdoioallpkaaGreatDoor.Span Go.Proofs.YtjbjdoioallpkaaGreatDoor.Need Go.Proofs.YtjbjdoioallpkaaGreatDoor.Mani Go.Proofs.YtjbjdoioallpkaaGreatDoor.Wire Go.Proofs.YtjbjdoioallpkaaGreatDoor.Depot Go.Proofs.YtjbjdoioallpkaaGreatDoor.Index Go.Proofs.YtjbjdoioallpkaaGreatDoor.Reach Go.Proofs.YtjbjdoioallpkaaGreatDoor.Pick
set_option linter.unusedVariables false
theorem flat_six {α β : Type} (f : α → List β) : ∀ l : List α, (∀ a ∈ l, (f a).length ≤ 6) → (l.flatMap f).length ≤ 6 * l.length
  | [], _ => Nat.le_refl _
  | x :: t, h => by
    rw [List.flatMap_cons, List.length_append, List.length_cons]
    have h1 := h x (by simp)
    have h2 := flat_six f t fun a ha => h a (List.mem_cons_of_mem x ha)
    omega
section
variable {X : List Kn} {root : List Nd} {l : List Pk}
theorem len_may {o : List ByteArray} (hs : SetX X) (hr : root.length ≤ 40) (hl : l.length ≤ 60) (ho : RisesN o) (hm : ∀ z, z ∈ o → MayF X root l z) : o.length ≤ 400 := by
  obtain ⟨u1, u2⟩ := addsN_ok (namesS root ++ l.flatMap fun p : Pk => namesS (needsX X p.1 p.2)) (out := []) List.Pairwise.nil
  have h1 := addsN_len [] (namesS root ++ l.flatMap fun p : Pk => namesS (needsX X p.1 p.2))
  have h2 := flat_six (fun p : Pk => namesS (needsX X p.1 p.2)) l fun p _ => by unfold namesS; rw [List.length_map]; exact (needs_sets hs p.1 p.2).1
  have h3 : (namesS root).length = root.length := by unfold namesS; rw [List.length_map]
  rw [List.length_append] at h1
  have h4 : o.length ≤ (addsN [] (namesS root ++ l.flatMap fun p : Pk => namesS (needsX X p.1 p.2))).length := (sub_of_rises ho u1 fun z hz => (u2 z).2 (.inr (by
    rw [List.mem_append]
    cases hm z hz with
    | root h => exact .inl h
    | ask h k =>
      obtain ⟨v, hv, hk⟩ := asks_pick k
      exact .inr (List.mem_flatMap.2 ⟨_, getP_in hv, hk⟩)))).length_le
  have h5 : ([] : List ByteArray).length = 0 := rfl
  omega
def midF (X : List Kn) (l : List Pk) (o : List ByteArray) (i : Nat) : List ByteArray := addsN o ((o.take i).flatMap (asksF X l))
theorem mid_zero (o : List ByteArray) : midF X l o 0 = o := rfl
theorem mid_next {o : List ByteArray} {i : Nat} {a : ByteArray} (h : o[i]? = some a) : midF X l o (i + 1) = addsN (midF X l o i) (asksF X l a) := by
  unfold midF
  rw [take_snoc' o i a h, List.flatMap_append, addsN_append]
  simp
theorem mid_all (o : List ByteArray) : midF X l o o.length = stepF X l o := by unfold midF stepF; rw [List.take_length]
theorem mid_ok {o : List ByteArray} (ho : RisesN o) (hm : ∀ z, z ∈ o → MayF X root l z) {i : Nat} {a : ByteArray} (ha : a ∈ o) (acc : List ByteArray) (hacc : ∀ z, z ∈ acc → z ∈ asksF X l a) :
    RisesN (addsN (midF X l o i) acc) ∧ ∀ z, z ∈ addsN (midF X l o i) acc → MayF X root l z := by
  obtain ⟨m1, m2⟩ := addsN_ok ((o.take i).flatMap (asksF X l)) ho
  obtain ⟨n1, n2⟩ := addsN_ok acc m1
  refine ⟨n1, fun z hz => ?_⟩
  rcases (n2 z).1 hz with h | h
  · rcases (m2 z).1 h with h | h
    · exact hm z h
    · obtain ⟨b, hb, hk⟩ := List.mem_flatMap.1 h
      exact .ask (hm b (List.mem_of_mem_take hb)) hk
  · exact .ask (hm a ha) (hacc z h)
theorem asks_some {a : ByteArray} {v : Int} (h : getP l a = some v) : asksF X l a = namesS (needsX X a v) := by unfold asksF; rw [h]
theorem asks_none {a : ByteArray} (h : getP l a = none) : asksF X l a = [] := by unfold asksF; rw [h]
theorem names_take {L : List Nd} {i : Nat} {q : Nd} (h : L[i]? = some q) : namesS (L.take (i + 1)) = namesS (L.take i) ++ [q.1] := by
  unfold namesS
  rw [take_snoc' L i q h, List.map_append]; rfl
theorem names_take_mem {L : List Nd} {k : Nat} {z : ByteArray} (h : z ∈ namesS (L.take k)) : z ∈ namesS L := by
  unfold namesS at *
  obtain ⟨q, hq, rfl⟩ := List.mem_map.1 h
  exact List.mem_map.2 ⟨q, List.mem_of_mem_take hq, rfl⟩
/-- What the rounds come by. -/
theorem round_may (k : Nat) : RisesN (roundsF X l k (addsN [] (namesS root))) ∧ ∀ z, z ∈ roundsF X l k (addsN [] (namesS root)) → MayF X root l z := by
  obtain ⟨r1, r2⟩ := roots_ok root
  exact ⟨(rounds_ok k r1).1, rounds_may k r1 fun y hy => .root ((r2 y).1 hy)⟩
end
end Go.Proofs.YtjbjdoioallpkaaGreatDoor.Fit
/-
  Plain mathematics of the program's way to what picks need: names, one by one, in the order in which they are found; sorted, they are the list that rises. No program.
-/
namespace Go.Proofs.YtjbjdoioallpkaaGreatDoor.Fit
open Go Go.RowKit Go.Lib Go.Sort Go.Proofs.YtjbjdoioallpkaaGreatDoor.Span Go.Proofs.YtjbjdoioallpkaaGreatDoor.Need Go.Proofs.YtjbjdoioallpkaaGreatDoor.Mani Go.Proofs.YtjbjdoioallpkaaGreatDoor.Wire Go.Proofs.YtjbjdoioallpkaaGreatDoor.Depot Go.Proofs.YtjbjdoioallpkaaGreatDoor.Index Go.Proofs.YtjbjdoioallpkaaGreatDoor.Reach Go.Proofs.YtjbjdoioallpkaaGreatDoor.Pick
set_option linter.unusedVariables false
section
variable {X : List Kn} {root : List Nd} {l : List Pk} {L : List ByteArray} {d : Nat}
/-- The search: L is found, of which the first d were gone through. -/
structure BfsF (X : List Kn) (root : List Nd) (l : List Pk) (L : List ByteArray) (d : Nat) : Prop where
  nodup : L.Nodup
  may : ∀ z, z ∈ L → MayF X root l z
  has : ∀ z, z ∈ namesS root → z ∈ L
  done : ∀ (i : Nat) (a : ByteArray), i < d → L[i]? = some a → ∀ z, z ∈ Fit.asksF X l a → z ∈ L
theorem bfsF_start (X : List Kn) (root : List Nd) (l : List Pk) : BfsF X root l (newF [] (namesS root)) 0 := by
  have hn := newF_nodup (acc := []) List.Pairwise.nil (namesS root)
  have hm := fun z => newF_mem (acc := []) (z := z) List.Pairwise.nil (namesS root)
  simp only [List.nil_append] at hn hm
  exact ⟨hn, fun z hz => .root (by simpa using (hm z).1 hz), fun z hz => (hm z).2 (.inr hz), fun i a hi => by omega⟩
theorem BfsF.step {a : ByteArray} (h : BfsF X root l L d) (ha : L[d]? = some a) : BfsF X root l (L ++ newF L (Fit.asksF X l a)) (d + 1) := by
  have hm := fun z => newF_mem (z := z) h.nodup (Fit.asksF X l a)
  have hd : d < L.length := (List.getElem?_eq_some_iff.1 ha).1
  refine ⟨newF_nodup h.nodup _, fun z hz => ?_, fun z hz => (hm z).2 (.inl (h.has z hz)), fun i b hi hb z hz => ?_⟩
  · rcases (hm z).1 hz with g | g
    · exact h.may z g
    · exact .ask (h.may a (List.mem_of_getElem? ha)) g
  · rw [List.getElem?_append_left (by omega)] at hb
    rcases Nat.lt_or_ge i d with g | g
    · exact (hm z).2 (.inl (h.done i b g hb z hz))
    · have e : i = d := by omega
      subst e
      rw [ha] at hb
      injection hb with hb
      subst hb
      exact (hm z).2 (.inr hz)
theorem BfsF.pass {a : ByteArray} (h : BfsF X root l L d) (ha : L[d]? = some a) (hn : getP l a = none) : BfsF X root l L (d + 1) := by
  have := h.step ha
  rw [asks_none hn] at this
  have e : newF L [] = [] := rfl
  rw [e, List.append_nil] at this
  exact this
theorem BfsF.go {a : ByteArray} {v : Int} (h : BfsF X root l L d) (ha : L[d]? = some a) (hv : getP l a = some v) : BfsF X root l (L ++ newF L (namesS (needsX X a v))) (d + 1) := by
  have := h.step ha
  rwa [asks_some hv] at this
theorem BfsF.len (h : BfsF X root l L d) (hs : SetX X) (hr : root.length ≤ 40) (hl : l.length ≤ 60) : L.length ≤ 400 := by
  have h1 := (foldN_perm h.nodup).length_eq
  have h2 := len_may hs hr hl (foldN_rises L) fun z hz => h.may z ((foldN_mem L).1 hz)
  omega
theorem BfsF.perm (h : BfsF X root l L L.length) : L.Perm (neededX X root l) := by
  have hr : ReachesF X root l (foldN L) := by
    refine ⟨foldN_rises L, fun z => ?_⟩
    rw [foldN_mem]
    refine ⟨h.may z, fun hz => ?_⟩
    induction hz with
    | root hr => exact h.has _ hr
    | ask _ hk ih =>
      obtain ⟨i, hi, e⟩ := List.getElem_of_mem ih
      exact h.done i _ hi (List.getElem?_eq_some_iff.2 ⟨hi, e⟩) _ hk
  rw [← hr.unique (needed_ok X root l)]
  exact (foldN_perm h.nodup).symm
/-- The found names, sorted by the library. -/
theorem BfsF.sorted (h : BfsF X root l L L.length) : (L.map bytesOf).mergeSort (fun x y => decide (x ≤ y)) = (neededX X root l).map bytesOf := by
  have hlt : ((neededX X root l).map bytesOf).Pairwise (fun x y => x < y) := List.pairwise_map.2 ((needed_ok X root l).1.imp fun h => bytes_lt h)
  have h1 := mergeSort_of_perm (h.perm.map bytesOf)
  refine h1.trans ?_
  refine List.mergeSort_of_pairwise (hlt.imp fun h => ?_)
  simp only [leB, decide_eq_true_eq]
  exact List.le_of_lt h
theorem needs_fine {a : ByteArray} {v : Int} (hf : FineX X) {q : Nd} (hq : q ∈ needsX X a v) : q.1.size ≤ 100 := by
  unfold needsX relX at hq
  cases g : getR (getX X a).1 v with
  | none => rw [g] at hq; cases hq
  | some r =>
    rw [g] at hq
    exact (((hf.get a).2 r (getR_mem g).1).2 q hq).1
theorem mayF_short {z : ByteArray} (hf : FineX X) (hr : ∀ q ∈ root, q.1.size ≤ 100) (hz : MayF X root l z) : z.size ≤ 100 := by
  cases hz with
  | root hm =>
    obtain ⟨q, hq, rfl⟩ := List.mem_map.1 hm
    exact hr q hq
  | ask _ hk =>
    obtain ⟨v, hv, hz⟩ := asks_pick hk
    obtain ⟨q, hq, rfl⟩ := List.mem_map.1 hz
    exact needs_fine hf hq
end
end Go.Proofs.YtjbjdoioallpkaaGreatDoor.Fit
