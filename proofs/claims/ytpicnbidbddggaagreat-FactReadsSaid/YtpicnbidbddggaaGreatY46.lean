/-
  Some texts of this claim, one behind the other: FitMath, FitSets, FactMath, FactTwin, FactLen, FactRef1, FactShort, FactRef2, FactRef3. What each proves, and its condition, stands at its head.
-/
import Derived.Test.YtpicnbidbddggaaGreatY42
import Derived.Test.YtpicnbidbddggaaGreatY22
import Derived.Test.YtpicnbidbddggaaGreatY14
import Derived.Test.YtpicnbidbddggaaGreatY15
import Derived.Test.YtpicnbidbddggaaGreatY32
import Derived.Test.YtpicnbidbddggaaGreatY43
import Derived.Test.YtpicnbidbddggaaGreatY28
import Derived.Test.YtpicnbidbddggaaGreatY27
/-
  Plain mathematics of solutions: what is needed by picks; what is wrong with them; a solution stays one as more is known, its names are just those that are needed, without one of its picks it is none. No program.
-/
namespace Go.Proofs.YtpicnbidbddggaaGreat.Fit
open Go.RowKit Go.Lib Go.Proofs.YtpicnbidbddggaaGreat.Span Go.Proofs.YtpicnbidbddggaaGreat.Need Go.Proofs.YtpicnbidbddggaaGreat.Mani Go.Proofs.YtpicnbidbddggaaGreat.Wire Go.Proofs.YtpicnbidbddggaaGreat.Depot Go.Proofs.YtpicnbidbddggaaGreat.Index Go.Proofs.YtpicnbidbddggaaGreat.Reach Go.Proofs.YtpicnbidbddggaaGreat.Pick
set_option linter.unusedVariables false
def memB (x : ByteArray) (o : List ByteArray) : Bool := o.any fun y => decide (y = x)
def relX (X : List Kn) (a : ByteArray) (v : Int) : Option Rl := getR (getX X a).1 v
def needsX (X : List Kn) (a : ByteArray) (v : Int) : List Nd := ((relX X a v).getD (0, [])).2
def metP (l : List Pk) (q : Nd) : Bool := match getP l q.1 with
  | some v => has q.2 v
  | none => false
def asksF (X : List Kn) (l : List Pk) (a : ByteArray) : List ByteArray := match getP l a with
  | some v => namesS (needsX X a v)
  | none => []
inductive MayF (X : List Kn) (root : List Nd) (l : List Pk) : ByteArray → Prop
  | root {a : ByteArray} (h : a ∈ namesS root) : MayF X root l a
  | ask {a b : ByteArray} (h : MayF X root l a) (k : b ∈ asksF X l a) : MayF X root l b
def stepF (X : List Kn) (l : List Pk) (o : List ByteArray) : List ByteArray := addsN o (o.flatMap (asksF X l))
def roundsF (X : List Kn) (l : List Pk) : Nat → List ByteArray → List ByteArray
  | 0, o => o
  | k + 1, o => roundsF X l k (stepF X l o)
def neededX (X : List Kn) (root : List Nd) (l : List Pk) : List ByteArray := roundsF X l (l.length + 1) (addsN [] (namesS root))
section
variable {X : List Kn} {root : List Nd} {l : List Pk}
def ClosedF (X : List Kn) (l : List Pk) (o : List ByteArray) : Prop := ∀ a ∈ o, ∀ z ∈ asksF X l a, z ∈ o
def cntF (l : List Pk) (o : List ByteArray) : Nat := (l.filter fun q : Pk => memB q.1 o).length
def ReachesF (X : List Kn) (root : List Nd) (l : List Pk) (L : List ByteArray) : Prop := RisesN L ∧ ∀ z, z ∈ L ↔ MayF X root l z
theorem ReachesF.unique {L M : List ByteArray} (h : ReachesF X root l L) (k : ReachesF X root l M) : L = M := rises_unique h.1 k.1 fun z => (h.2 z).trans (k.2 z).symm
def lacksX (X : List Kn) (p : Pk) : Bool := !(relX X p.1 p.2).isSome
def unmetX (X : List Kn) (l : List Pk) (p : Pk) : Bool := (needsX X p.1 p.2).any fun q => !metP l q
def wrongX (X : List Kn) (root : List Nd) (l : List Pk) : Int × ByteArray :=
  if okP l = false then (1, ByteArray.empty) else match root.find? fun q : Nd => !metP l q with
  | some q => (2, q.1)
  | none => match l.find? (lacksX X) with
    | some p => (3, p.1)
    | none => match l.find? (unmetX X l) with
      | some p => (4, p.1)
      | none => match l.find? fun p : Pk => !memB p.1 (neededX X root l) with
        | some p => (5, p.1)
        | none => (0, ByteArray.empty)
def solX (X : List Kn) (root : List Nd) (l : List Pk) : Bool := decide ((wrongX X root l).1 = 0)
theorem rel_known {a : ByteArray} {v : Int} (h : (relX X a v).isSome = true) : ∃ k, atX X a = some k := by
  unfold relX getX at h
  cases e : atX X a with
  | none => rw [e] at h; cases h
  | some k => exact ⟨k, rfl⟩
end
end Go.Proofs.YtpicnbidbddggaaGreat.Fit
/-
  What is known has sets for what it needs. No program.
-/
namespace Go.Proofs.YtpicnbidbddggaaGreat.Fit
open Go.RowKit Go.Lib Go.Proofs.YtpicnbidbddggaaGreat.Span Go.Proofs.YtpicnbidbddggaaGreat.Need Go.Proofs.YtpicnbidbddggaaGreat.Mani Go.Proofs.YtpicnbidbddggaaGreat.Wire Go.Proofs.YtpicnbidbddggaaGreat.Depot Go.Proofs.YtpicnbidbddggaaGreat.Index Go.Proofs.YtpicnbidbddggaaGreat.Pick
set_option linter.unusedVariables false
def SetR (l : List Rl) : Prop := ∀ r ∈ l, okS r.2 = true
def SetX (X : List Kn) : Prop := ∀ q ∈ X, SetR q.2.1
theorem relE_sets (nm : ByteArray) (b : List UInt8) : SetR (relE nm b) := by
  unfold relE
  split
  · rename_i h
    unfold goodE at h
    simp only [Bool.and_eq_true, decide_eq_true_eq] at h
    have hok : okM (readB b).1 (readB b).2 = true := by
      unfold readB
      rw [if_pos h.1]
      have h0 := h.1
      unfold errB at h0
      split at h0
      · exact absurd h0 (by simp)
      · split at h0
        · rename_i e; exact absurd h0 e
        · split at h0
          · rename_i e; exact e
          · exact absurd h0 (by simp)
    simp only [okM, Bool.and_eq_true] at hok
    exact fun r hr => (okR_all hok.1 r hr).2.2
  · intro r hr; cases hr
theorem SetX.nil : SetX [] := fun q hq => by cases hq
theorem SetX.put {l : List Kn} (h : SetX l) (nm : ByteArray) (b : List UInt8) : SetX (putX l nm b) := by
  unfold putX
  split
  · intro q hq
    rcases (insX_mem _ _).1 hq with rfl | hq
    · exact relE_sets nm b
    · exact h q hq
  · exact h
theorem SetX.puts {l : List Kn} (h : SetX l) (es : List En) : SetX (putsX l es) := by
  induction es generalizing l with
  | nil => exact h
  | cons e t ih => exact ih (h.put e.1 e.2)
theorem SetX.get {l : List Kn} (h : SetX l) (nm : ByteArray) : SetR (getX l nm).1 := by
  unfold getX
  cases g : atX l nm with
  | none => exact fun r hr => by cases hr
  | some k => exact h _ (atX_in g)
end Go.Proofs.YtpicnbidbddggaaGreat.Fit
/-
  Plain mathematics of facts: what root, and a known package, let be said of picks; of a solution no fact holds; picks of which none holds lack nothing. No program.
-/
namespace Go.Proofs.YtpicnbidbddggaaGreat.Fact
open Go.RowKit Go.Lib Go.Proofs.YtpicnbidbddggaaGreat.Label Go.Proofs.YtpicnbidbddggaaGreat.Span Go.Proofs.YtpicnbidbddggaaGreat.Need Go.Proofs.YtpicnbidbddggaaGreat.Mani Go.Proofs.YtpicnbidbddggaaGreat.Wire Go.Proofs.YtpicnbidbddggaaGreat.Depot Go.Proofs.YtpicnbidbddggaaGreat.Index Go.Proofs.YtpicnbidbddggaaGreat.Reach Go.Proofs.YtpicnbidbddggaaGreat.Pick Go.Proofs.YtpicnbidbddggaaGreat.Fit Go.Proofs.YtpicnbidbddggaaGreat.Term Go.Proofs.YtpicnbidbddggaaGreat.Clash
set_option linter.unusedVariables false
noncomputable def unmetT (n : ByteArray) (s : List S) : Tm := notT ⟨n, s, false⟩
def atS (v : Int) : List S := [(v, v + 1)]
theorem has_one {v p : Int} : has (atS v) p = decide (p = v) := by
  unfold has atS
  rw [Bool.eq_iff_iff]
  simp
  omega
noncomputable def askedC (root : List Nd) (n : ByteArray) : Option (List Tm) := match findS root n with
  | some s => makeC [unmetT n s]
  | none => none
noncomputable def releasedC (X : List Kn) (n : ByteArray) : Option (List Tm) := match atX X n with
  | some k => makeC [⟨n, notS (versS k.1), false⟩]
  | none => none
noncomputable def neededC (X : List Kn) (n : ByteArray) (v : Int) (b : ByteArray) : Option (List Tm) := match relX X n v with
  | some r => match findS r.2 b with
    | some s => makeC [⟨n, atS v, false⟩, unmetT b s]
    | none => none
  | none => none
noncomputable def rootC (root : List Nd) : List (List Tm) := root.map fun q => (askedC root q.1).getD []
noncomputable def allC (X : List Kn) (n : ByteArray) : List (List Tm) := match releasedC X n with
  | some c => c :: (getX X n).1.flatMap fun r => r.2.filterMap fun q => neededC X n r.1 q.1
  | none => []
section
variable {X : List Kn} {root : List Nd} {l : List Pk}
theorem unmet_some (n : ByteArray) (s : List S) : ∃ c, makeC [unmetT n s] = some c := by
  unfold makeC putsC
  have e : emptyT (unmetT n s) = false := rfl
  refine ⟨_, if_neg ?_⟩
  simp [putC, e]
theorem vers_has (L : List Rl) {p : Int} (h0 : 0 ≤ p) (h1 : p < 1000000000) : has (versS L) p = inVers L p := nf_in _ h0 h1
theorem pig : ∀ (n : Nat) (L : List Int), (∀ i : Nat, i < n → (i : Int) ∈ L) → n ≤ L.length
  | 0, L, _ => Nat.zero_le _
  | n + 1, L, h => by
    have h1 := h n (by omega)
    have h2 := pig n (L.erase (n : Int)) fun i hi => (List.mem_erase_of_ne (by omega)).2 (h i (by omega))
    rw [List.length_erase_of_mem h1] at h2
    have := List.length_pos_of_mem h1
    omega
theorem released_none {a : ByteArray} {k : Kv} (hk : atX X a = some k) (hs : k.1.length ≤ 30) : ∃ c, releasedC X a = some c := by
  unfold releasedC
  rw [hk]
  simp only []
  unfold makeC putsC
  have hne : notS (versS k.1) ≠ [] := fun e => by
    have all : ∀ p : Int, 0 ≤ p → p < 1000000000 → inVers k.1 p = true := fun p h0 h1 => by
      have h2 := nf_nil.1 e p h0 h1
      have h3 : (!has (versS k.1) p) = false := h2
      rw [vers_has k.1 h0 h1] at h3
      simpa using h3
    have := pig 31 (k.1.map Prod.fst) fun i hi => by
      obtain ⟨q, hq, e⟩ := inVers_iff.1 (all i (by omega) (by omega))
      exact List.mem_map.2 ⟨q, hq, e⟩
    rw [List.length_map] at this
    omega
  have e : emptyT ⟨a, notS (versS k.1), false⟩ = false := by unfold emptyT; simp [hne]
  refine ⟨_, if_neg ?_⟩
  simp [putC, e]
theorem all_cases {a : ByteArray} {c : List Tm} (hc : c ∈ allC X a) : releasedC X a = some c ∨ ∃ r ∈ (getX X a).1, ∃ q ∈ r.2, neededC X a r.1 q.1 = some c := by
  unfold allC at hc
  split at hc
  · rename_i d hd
    rcases List.mem_cons.1 hc with rfl | hc
    · exact .inl hd
    · obtain ⟨r, hr, hc⟩ := List.mem_flatMap.1 hc
      obtain ⟨q, hq, hc⟩ := List.mem_filterMap.1 hc
      exact .inr ⟨r, hr, q, hq, hc⟩
  · cases hc
end
end Go.Proofs.YtpicnbidbddggaaGreat.Fact
/-
  Plain mathematics of facts, as loops reckon them: facts with their steps, two by two; how many there are. No program.
-/
namespace Go.Proofs.YtpicnbidbddggaaGreat.Fact
open Go.RowKit Go.Lib Go.Proofs.YtpicnbidbddggaaGreat.Label Go.Proofs.YtpicnbidbddggaaGreat.Span Go.Proofs.YtpicnbidbddggaaGreat.Need Go.Proofs.YtpicnbidbddggaaGreat.Mani Go.Proofs.YtpicnbidbddggaaGreat.Wire Go.Proofs.YtpicnbidbddggaaGreat.Depot Go.Proofs.YtpicnbidbddggaaGreat.Index Go.Proofs.YtpicnbidbddggaaGreat.Reach Go.Proofs.YtpicnbidbddggaaGreat.Pick Go.Proofs.YtpicnbidbddggaaGreat.Fit Go.Proofs.YtpicnbidbddggaaGreat.Term Go.Proofs.YtpicnbidbddggaaGreat.Clash
set_option linter.unusedVariables false
abbrev Fa := List Tm × Proof.Sp
def askedStep (n : ByteArray) : Proof.Sp := ⟨1, n, 0, ByteArray.empty, 0, 0⟩
def releasedStep (n : ByteArray) : Proof.Sp := ⟨2, n, 0, ByteArray.empty, 0, 0⟩
def neededStep (n : ByteArray) (v : Int) (b : ByteArray) : Proof.Sp := ⟨3, n, v, b, 0, 0⟩
noncomputable def askedP (root l : List Nd) : List Fa := l.map fun q => ((askedC root q.1).getD [], askedStep q.1)
noncomputable def neededP (X : List Kn) (n : ByteArray) (v : Int) (l : List Nd) : List Fa := l.filterMap fun q => (neededC X n v q.1).map fun c => (c, neededStep n v q.1)
noncomputable def relsP (X : List Kn) (n : ByteArray) (l : List Rl) : List Fa := l.flatMap fun r => neededP X n r.1 r.2
noncomputable def rootP (root : List Nd) : List Fa := askedP root root
noncomputable def allP (X : List Kn) (n : ByteArray) : List Fa := match releasedC X n with
  | some c => (c, releasedStep n) :: relsP X n (getX X n).1
  | none => []
theorem root_fst (root : List Nd) : (rootP root).map Prod.fst = rootC root := by
  unfold rootP askedP rootC
  rw [List.map_map]
  rfl
theorem needed_fst (X : List Kn) (n : ByteArray) (v : Int) (l : List Nd) : (neededP X n v l).map Prod.fst = l.filterMap fun q => neededC X n v q.1 := by
  unfold neededP
  rw [List.map_filterMap]
  congr 1
  funext q
  cases neededC X n v q.1 <;> rfl
theorem all_fst (X : List Kn) (n : ByteArray) : (allP X n).map Prod.fst = allC X n := by
  unfold allP allC
  cases releasedC X n with
  | none => rfl
  | some c =>
    simp only [List.map_cons]
    unfold relsP
    rw [List.map_flatMap]
    exact congrArg (c :: ·) (congrArg (fun f : Rl → List (List Tm) => List.flatMap f (getX X n).1) (funext fun r => needed_fst X n r.1 r.2))
theorem asked_take (root l : List Nd) {i : Nat} {q : Nd} (h : l[i]? = some q) : askedP root (l.take (i + 1)) = askedP root (l.take i) ++ [((askedC root q.1).getD [], askedStep q.1)] := by
  unfold askedP
  rw [List.take_add_one, h]
  simp
theorem needed_take (X : List Kn) (n : ByteArray) (v : Int) (l : List Nd) {i : Nat} {q : Nd} (h : l[i]? = some q) :
    neededP X n v (l.take (i + 1)) = neededP X n v (l.take i) ++ (match neededC X n v q.1 with | some c => [(c, neededStep n v q.1)] | none => []) := by
  unfold neededP
  rw [List.take_add_one, h, List.filterMap_append]
  refine congrArg _ ?_
  simp only [Option.toList_some, List.filterMap_cons, List.filterMap_nil]
  cases neededC X n v q.1 <;> rfl
theorem rels_take (X : List Kn) (n : ByteArray) (l : List Rl) {i : Nat} {r : Rl} (h : l[i]? = some r) : relsP X n (l.take (i + 1)) = relsP X n (l.take i) ++ neededP X n r.1 r.2 := by
  unfold relsP
  rw [List.take_add_one, h, List.flatMap_append]
  simp
theorem asked_len (root l : List Nd) : (askedP root l).length = l.length := by unfold askedP; simp
theorem needed_len (X : List Kn) (n : ByteArray) (v : Int) (l : List Nd) : (neededP X n v l).length ≤ l.length := List.length_filterMap_le _ _
theorem rels_len (X : List Kn) (n : ByteArray) : ∀ l : List Rl, (∀ r ∈ l, r.2.length ≤ 40) → (relsP X n l).length ≤ 40 * l.length
  | [], _ => by simp [relsP]
  | r :: t, h => by
    have h1 := rels_len X n t fun q hq => h q (by simp [hq])
    have h2 := needed_len X n r.1 r.2
    have h3 := h r (by simp)
    unfold relsP at *
    rw [List.flatMap_cons, List.length_append, List.length_cons]
    omega
theorem at_one {v : Int} (h0 : 0 ≤ v) (h1 : v < 1000000000) : oneS v = atS v := oneS_some h0 h1
theorem one_ok {n : ByteArray} {s : List S} {z : Bool} (hn : fitL (runes n 0) = true) (hs : isSet (-1) s = true) : okT ⟨n, s, z⟩ = true := by
  unfold okT
  simp [hn, hs]
end Go.Proofs.YtpicnbidbddggaaGreat.Fact
/-
  How many spans a Not and the versions of releases have; what is known of an index that was put together: names that may be, versions in range. No program.
-/
namespace Go.Proofs.YtpicnbidbddggaaGreat.Fact
open Go.RowKit Go.Lib Go.Proofs.YtpicnbidbddggaaGreat.Label Go.Proofs.YtpicnbidbddggaaGreat.Span Go.Proofs.YtpicnbidbddggaaGreat.Need Go.Proofs.YtpicnbidbddggaaGreat.Mani Go.Proofs.YtpicnbidbddggaaGreat.Wire Go.Proofs.YtpicnbidbddggaaGreat.Depot Go.Proofs.YtpicnbidbddggaaGreat.Index Go.Proofs.YtpicnbidbddggaaGreat.Reach Go.Proofs.YtpicnbidbddggaaGreat.Pick Go.Proofs.YtpicnbidbddggaaGreat.Fit Go.Proofs.YtpicnbidbddggaaGreat.Term Go.Proofs.YtpicnbidbddggaaGreat.Clash
set_option linter.unusedVariables false
theorem end_out {l : List S} {p : Int} (h1 : has l (p - 1) = true) (h2 : has l p = false) : p ∈ l.map Prod.snd := by
  obtain ⟨x, hx, g1, g2⟩ := (has_iff _ _).1 h1
  have h3 : ¬ p < x.2 := fun g => by
    have : has l p = true := (has_iff _ _).2 ⟨x, hx, by omega, g⟩
    rw [h2] at this
    cases this
  exact List.mem_map.2 ⟨x, hx, by omega⟩
theorem not_len {a : List S} (ha : isSet (-1) a = true) : (notS a).length ≤ a.length + 1 := by
  have h := sorted_len ((notS a).map Prod.fst) (0 :: a.map Prod.snd) (starts_rise (nf_set _)) (fun x hx => by
    obtain ⟨s, hs, rfl⟩ := List.mem_map.1 hx
    obtain ⟨h1, h2⟩ := nf_before hs
    have h1' : (!has a s.1) = true := h1
    rcases h2 with h0 | h2
    · rw [h0]; exact List.mem_cons_self
    · have h2' : (!has a (s.1 - 1)) = false := h2
      refine List.mem_cons_of_mem _ (end_out ?_ ?_)
      · simpa using h2'
      · simpa using h1')
  simpa using h
theorem vers_len (l : List Rl) : (versS l).length ≤ l.length := by
  have h := sorted_len ((versS l).map Prod.fst) (l.map Prod.fst) (starts_rise (nf_set _)) (fun x hx => by
    obtain ⟨s, hs, rfl⟩ := List.mem_map.1 hx
    obtain ⟨h1, _⟩ := nf_before hs
    obtain ⟨q, hq, e⟩ := inVers_iff.1 h1
    exact List.mem_map.2 ⟨q, hq, e⟩)
  simpa using h
theorem vers_set (l : List Rl) : isSet (-1) (versS l) = true := nf_set _
theorem unmet_ok {n : ByteArray} (s : List S) (hn : fitL (runes n 0) = true) : okT (unmetT n s) = true := one_ok hn (nf_set _)
theorem unmet_len {n : ByteArray} {s : List S} (hs : isSet (-1) s = true) (h6 : s.length ≤ 6) : (unmetT n s).set.length ≤ 7 := by
  have := not_len hs
  show (notS s).length ≤ 7
  omega
def VerK (X : List Kn) : Prop := ∀ q ∈ X, ∀ r ∈ q.2.1, 0 ≤ r.1 ∧ r.1 < 1000000000
def FitX (X : List Kn) : Prop := ∀ q ∈ X, fitL (runes q.1 0) = true
def RisX (X : List Kn) : Prop := ∀ q ∈ X, RisesR q.2.1
structure OkX (X : List Kn) : Prop where
  fine : FineX X
  sets : SetX X
  vers : VerK X
  fits : FitX X
  few : X.length ≤ 100
  rise : RisX X
theorem getR_of {l : List Rl} (hr : RisesR l) {q : Rl} (hq : q ∈ l) : getR l q.1 = some q := by
  induction l with
  | nil => cases hq
  | cons x t ih =>
    obtain ⟨h1, h2⟩ := List.pairwise_cons.1 hr
    rw [getR]
    rcases List.mem_cons.1 hq with rfl | hq
    · rw [if_pos rfl]
    · have := h1 q hq
      rw [if_neg (by omega)]
      exact ih h2 hq
theorem relE_vers (nm : ByteArray) (b : List UInt8) : ∀ r ∈ relE nm b, 0 ≤ r.1 ∧ r.1 < 1000000000 := by
  unfold relE
  split
  · rename_i h
    unfold goodE at h
    simp only [Bool.and_eq_true, decide_eq_true_eq] at h
    have hok : okM (readB b).1 (readB b).2 = true := by
      unfold readB
      rw [if_pos h.1]
      have h0 := h.1
      unfold errB at h0
      split at h0
      · exact absurd h0 (by simp)
      · split at h0
        · rename_i e; exact absurd h0 e
        · split at h0
          · rename_i e; exact e
          · exact absurd h0 (by simp)
    simp only [okM, Bool.and_eq_true] at hok
    intro r hr
    have := okR_all hok.1 r hr
    exact ⟨by omega, this.2.1⟩
  · intro r hr; cases hr
theorem relE_rise (nm : ByteArray) (b : List UInt8) : RisesR (relE nm b) := by
  unfold relE
  split
  · rename_i h
    unfold goodE at h
    simp only [Bool.and_eq_true, decide_eq_true_eq] at h
    have hok : okM (readB b).1 (readB b).2 = true := by
      unfold readB
      rw [if_pos h.1]
      have h0 := h.1
      unfold errB at h0
      split at h0
      · exact absurd h0 (by simp)
      · split at h0
        · rename_i e; exact absurd h0 e
        · split at h0
          · rename_i e; exact e
          · exact absurd h0 (by simp)
    exact (okM_parts hok).2.1
  · exact List.Pairwise.nil
theorem RisX.nil : RisX [] := fun q hq => by cases hq
theorem RisX.put {l : List Kn} (h : RisX l) (nm : ByteArray) (b : List UInt8) : RisX (putX l nm b) := by
  unfold putX
  split
  · intro q hq
    rcases (insX_mem _ _).1 hq with rfl | hq
    · exact relE_rise nm b
    · exact h q hq
  · exact h
theorem RisX.puts {l : List Kn} (h : RisX l) (es : List En) : RisX (putsX l es) := by
  induction es generalizing l with
  | nil => exact h
  | cons e t ih => exact ih (h.put e.1 e.2)
theorem VerK.nil : VerK [] := fun q hq => by cases hq
theorem VerK.put {l : List Kn} (h : VerK l) (nm : ByteArray) (b : List UInt8) : VerK (putX l nm b) := by
  unfold putX
  split
  · intro q hq
    rcases (insX_mem _ _).1 hq with rfl | hq
    · exact relE_vers nm b
    · exact h q hq
  · exact h
theorem VerK.puts {l : List Kn} (h : VerK l) (es : List En) : VerK (putsX l es) := by
  induction es generalizing l with
  | nil => exact h
  | cons e t ih => exact ih (h.put e.1 e.2)
theorem FitX.nil : FitX [] := fun q hq => by cases hq
theorem FitX.put {l : List Kn} (h : FitX l) (nm : ByteArray) (b : List UInt8) : FitX (putX l nm b) := by
  unfold putX
  split
  · rename_i h0
    intro q hq
    rcases (insX_mem _ _).1 hq with rfl | hq
    · have := (errX_zero.1 h0).1
      unfold mayX at this
      simp only [Bool.and_eq_true] at this
      exact this.1
    · exact h q hq
  · exact h
theorem FitX.puts {l : List Kn} (h : FitX l) (es : List En) : FitX (putsX l es) := by
  induction es generalizing l with
  | nil => exact h
  | cons e t ih => exact ih (h.put e.1 e.2)
theorem known_fit {X : List Kn} (h : FitX X) {n : ByteArray} {k : Kv} (hk : atX X n = some k) : fitL (runes n 0) = true := h _ (atX_in hk)
theorem rel_known {X : List Kn} {n : ByteArray} {v : Int} {r : Rl} (h : relX X n v = some r) : ∃ k, atX X n = some k ∧ r ∈ k.1 ∧ r.1 = v := by
  unfold relX getX at h
  cases e : atX X n with
  | none => rw [e] at h; cases h
  | some k =>
    rw [e] at h
    exact ⟨k, rfl, (getR_mem h).1, (getR_mem h).2⟩
end Go.Proofs.YtpicnbidbddggaaGreat.Fact
/-
  Contracts of the document's own Asked, Released and Needed of facts. Condition: needs that may be; an index that was put together.
-/
namespace Go.Proofs.YtpicnbidbddggaaGreat.Fact
open Go Go.RowKit Go.Lib Go.Proofs.YtpicnbidbddggaaGreat.Span Go.Proofs.YtpicnbidbddggaaGreat.Need Go.Proofs.YtpicnbidbddggaaGreat.Mani Go.Proofs.YtpicnbidbddggaaGreat.Index Go.Proofs.YtpicnbidbddggaaGreat.Grow Go.Proofs.YtpicnbidbddggaaGreat.Term Go.Proofs.YtpicnbidbddggaaGreat.Clash Go.Proofs.YtpicnbidbddggaaGreat.Fit
open Go.Proofs.YtpicnbidbddggaaGreat.Label (runes fitL)
set_option linter.unusedVariables false
theorem rls_on {w : World} {B n c : Nat} {A : Option Addr} {rs : List Vr} {l : List Rl} (h : Rls w B (.slice A n c) n rs l) : RlOn w A n l := by
  obtain ⟨A1, c1, e, _, hT⟩ := h.told
  injection e with e1 e2 e3
  rw [← e1] at hT
  exact hT
theorem one_tmR (w : World) (nm : ByteArray) (A : Option Addr) (n c : Nat) (z : Bool) {s : List S} (h : InS w 0 A n s) (g : Nat) (hg : g = w.heap.size) :
    TmR (w.alloc (.cells #[.string nm, .slice A n c, .bool z] 65)) (w.alloc (.cells #[.string nm, .slice A n c, .bool z] 65)).heap.size (some ⟨g, 0, none⟩) 1 [⟨nm, s, z⟩] := by
  subst hg
  have hT : TmsR (w.alloc (.cells #[.string nm, .slice A n c, .bool z] 65)) w.heap.size (.slice (some ⟨w.heap.size, 0, none⟩) 1 1) 1 [(nm, .slice A n c, z)] [⟨nm, s, z⟩] := ⟨own_one w nm A n c z _ (Nat.le_refl _), AllT.one (h.below (alloc_b _))⟩
  obtain ⟨A1, c1, e, _, hR⟩ := hT.told
  injection e with e1 e2 e3
  rw [← e1] at hR
  exact hR
theorem own_two (w : World) (nm : ByteArray) (A : Option Addr) (n c : Nat) (z : Bool) (nm' : ByteArray) (A' : Option Addr) (n' c' : Nat) (z' : Bool) (B : Nat) (hB : B ≤ w.heap.size) :
    (w.alloc (.cells #[.string nm, .slice A n c, .bool z, .string nm', .slice A' n' c', .bool z'] 65)).ownsRow B 65 3 (.slice (some ⟨w.heap.size, 0, none⟩) 2 2) 2 (tms [(nm, .slice A n c, z), (nm', .slice A' n' c', z')]) :=
  ⟨rfl, .inr ⟨w.heap.size, 2, _, rfl, hB, heap_alloc_new w _, Nat.le_refl _, by decide, rfl, rfl⟩⟩
theorem two_tmR (w : World) (nm : ByteArray) (A : Option Addr) (n c : Nat) (z : Bool) (nm' : ByteArray) (A' : Option Addr) (n' c' : Nat) (z' : Bool) {s s' : List S} (h : InS w 0 A n s) (h' : InS w 0 A' n' s') (g : Nat) (hg : g = w.heap.size) :
    TmR (w.alloc (.cells #[.string nm, .slice A n c, .bool z, .string nm', .slice A' n' c', .bool z'] 65)) (w.alloc (.cells #[.string nm, .slice A n c, .bool z, .string nm', .slice A' n' c', .bool z'] 65)).heap.size (some ⟨g, 0, none⟩) 2 [⟨nm, s, z⟩, ⟨nm', s', z'⟩] := by
  subst hg
  have hb := alloc_b (w := w) (.cells #[.string nm, .slice A n c, .bool z, .string nm', .slice A' n' c', .bool z'] 65)
  have hT : TmsR (w.alloc (.cells #[.string nm, .slice A n c, .bool z, .string nm', .slice A' n' c', .bool z'] 65)) w.heap.size (.slice (some ⟨w.heap.size, 0, none⟩) 2 2) 2 ([(nm, .slice A n c, z)] ++ [(nm', .slice A' n' c', z')]) ([⟨nm, s, z⟩] ++ [⟨nm', s', z'⟩]) := ⟨own_two w nm A n c z nm' A' n' c' z' _ (Nat.le_refl _), (AllT.one (h.below hb)).append (AllT.one (h'.below hb))⟩
  obtain ⟨A1, c1, e, _, hR⟩ := hT.told
  injection e with e1 e2 e3
  rw [← e1] at hR
  exact hR
set_option maxHeartbeats 4000000 in
set_option maxRecDepth 100000 in
theorem refUnmet_any (nm : ByteArray) (s : List S) (A : Option Addr) (n c : Nat) (w : World) (h : SpOn w A n s) (hn : n ≤ 10000) :
    Calls Tryz.prog 33 #[.string nm, .slice A n c] w (Term.MakesT w (unmetT nm s)) := by
  obtain ⟨W, hW⟩ : ∃ W, W = w.alloc (.cells #[.string ⟨#[]⟩, .slice none 0 0, .bool false] 65) := ⟨_, rfl⟩
  have hbW : Below w.heap.size w W := by rw [hW]; exact alloc_b _
  have bk : Blk W w.heap.size 65 #[.string ⟨#[]⟩, .slice none 0 0, .bool false] := by rw [hW]; exact Blk.new _ _ _
  have hlW := bk.lt
  have HN : Hid (Calls Tryz.prog 66 #[.agg #[.string nm, .slice A n c, .bool false]] W (Term.MakesT W (unmetT nm s))) := hide (refNotT_any nm s false A n c W (h.on hbW) hn)
  unfold Term.MakesT at HN ⊢
  generalize unmetT nm s = R at *
  clear h hn
  go_enter Tryz.func33, Tryz.ntmps33
  go_upto_region 1 with fail
  try rw [← hW]
  clear hW
  go_wp2_with (first
    | (go_at_call 66
       refine HN.out.mono ?_
       rintro e w1 ⟨A1, n1, c1, rfl, hN1, hb1⟩
       have hbw := hbW.trans (hb1.mono hbW.size)
       have bk1 := bk.below hb1 bk.lt
       have k0 := bk1.cell 0
       have k1 := bk1.cell 1
       have k2 := bk1.cell 2
       have f0 := bk1.frozen 0
       have f1 := bk1.frozen 1
       have f2 := bk1.frozen 2))
  have hblk := stored_row (u := .string R.name) (v := .slice A1 n1 c1) (x := .bool R.none) bk1 rfl
  refine bodyPost_ret (results_cell_row rfl _ _ w.heap.size 65 _ (0, 0) _ rfl hblk Tryz.underlying65 rfl rfl) rfl ?_
  exact ⟨A1, n1, c1, rfl, (three_new hN1 (by omega) _ _ _).less (by omega), three_b hbw (by omega) _ _ _⟩
set_option maxHeartbeats 4000000 in
set_option maxRecDepth 100000 in
theorem refAsked_any (root : List Nd) (nm : ByteArray) (A : Option Addr) (n c : Nat) (w : World) (h : NdOn w A n root) (hn : n ≤ 1000000) (hok : okS root = true) :
    Calls Tryz.prog 11 #[.slice A n c, .string nm] w (MakesR w (askedC root nm)) := by
  have HF := hide (refFindN_any root nm A n c w h (by omega))
  unfold Finds at HF
  unfold MakesR
  clear h hn
  cases f : findS root nm with
  | none =>
    have e : askedC root nm = none := by unfold askedC; rw [f]
    rw [e]
    rw [f] at HF
    clear e f hok
    go_enter Tryz.func11, Tryz.ntmps11
    go_wp2_with (first
      | (go_at_call 31
         refine HF.out.mono ?_
         rintro e w1 ⟨A1, n1, c1, rfl, h1, hb1⟩))
    go_ret2
    exact ⟨none, 0, 0, rfl, TmR.nil _ _ _, hb1⟩
  | some s =>
    have e : askedC root nm = makeC [unmetT nm s] := by unfold askedC; rw [f]
    rw [e]
    rw [f] at HF
    have hq : (nm, s) ∈ root := find_in f
    obtain ⟨ho, _, _, hsets⟩ := okS_parts hok
    have hfit := (ok_all ho _ hq).2.1
    have hset : isSet (-1) s = true ∧ s.length ≤ 6 := hsets _ hq
    have hl7 := unmet_len (n := nm) hset.1 hset.2
    have hs6 := hset.2
    have HM := hide (fun (wx : World) (Aq : Option Addr) (cq : Nat) (hq : TmR wx wx.heap.size Aq 1 [unmetT nm s]) => refMakeR_any [unmetT nm s] Aq 1 cq wx hq (fun t ht => by rw [List.mem_singleton.1 ht]; exact unmet_ok s hfit) (by rw [sumC_cons]; show _ + 0 ≤ _; omega) (by omega))
    unfold MakesR at HM
    have HU := hide (fun (wx : World) (A1 : Option Addr) (n1 c1 : Nat) (hx : SpOn wx A1 n1 s) => refUnmet_any nm s A1 n1 c1 wx hx (by have := hx.len; omega))
    unfold Term.MakesT at HU
    generalize makeC [unmetT nm s] = R at *
    generalize unmetT nm s = U at *
    clear e f hok hq ho hsets hfit hset hl7 hs6
    go_enter Tryz.func11, Tryz.ntmps11
    go_wp2_with (first
      | (go_at_call 31
         refine HF.out.mono ?_
         rintro e w1 ⟨A1, n1, c1, rfl, h1, hb1⟩)
      | (go_at_call 33
         refine (HU.out _ _ _ _ h1).mono ?_
         rintro e w2 ⟨A2, n2, c2, rfl, hN2, hb2⟩
         have hR2 := one_tmR w2 U.name A2 n2 c2 U.none (InS.of_new hN2) _ rfl
         have hb3 := hb1.trans (hb2.mono hb1.size)
         have hb4 := hb3.alloc hb3.size (.cells #[.string U.name, .slice A2 n2 c2, .bool U.none] 65))
      | (go_at_call 32
         refine (HM.out _ _ _ hR2).mono ?_
         rintro e w4 ⟨A4, n4, c4, rfl, h4, hb4x⟩
         have hb5 := hb4.trans (hb4x.mono hb4.size)))
    go_ret2
    exact ⟨A4, n4, c4, rfl, h4, hb5⟩
theorem at_nil {X : List Kn} {nm : ByteArray} (h : atX X nm = none) : releasedC X nm = none := by unfold releasedC; rw [h]
theorem at_get {X : List Kn} {nm : ByteArray} {k : Kv} (h : atX X nm = some k) : getX X nm = k := by unfold getX; rw [h]; rfl
theorem released_ok {X : List Kn} (hX : OkX X) {nm : ByteArray} {k : Kv} (h : atX X nm = some k) : okT ⟨nm, notS (versS k.1), false⟩ = true ∧ (notS (versS k.1)).length ≤ 31 ∧ k.1.length ≤ 30 ∧ FineR k.1 := by
  have hf := hX.fine.get nm
  rw [at_get h] at hf
  have h1 := vers_len k.1
  have h2 := not_len (vers_set k.1)
  have h3 := hf.1
  exact ⟨one_ok (known_fit hX.fits h) (nf_set _), by omega, h3, hf⟩
set_option maxHeartbeats 4000000 in
set_option maxRecDepth 100000 in
theorem refReleased_any (X : List Kn) (nm : ByteArray) (A : Option Addr) (n c : Nat) (w : World) (h : InK w A n X) (hX : OkX X) :
    Calls Tryz.prog 13 #[.agg #[.slice A n c], .string nm] w (MakesR w (releasedC X nm)) := by
  unfold MakesR
  have hn : n ≤ 100 := by rw [← h.len]; exact hX.few
  have hb0 := alloc_b (w := w) (.cells #[.slice A n c] 33)
  have HH := hide (fun (wx : World) (hx : Below w.heap.size w wx) => refHasX_any X nm A n c wx (h.below hx) (by omega))
  have HG := hide (fun (wx : World) (hx : Below w.heap.size w wx) => refGetX_any X nm A n c wx (h.below hx) (by omega))
  unfold Tells at HH
  unfold Gots at HG
  cases hk : atX X nm with
  | none =>
    rw [at_nil hk]
    rw [hk] at HH
    clear hk h hX HG
    go_enter Tryz.func13, Tryz.ntmps13
    go_wp2_with (first
      | (go_at_call 37
         refine (HH.out _ hb0).mono ?_
         rintro e w1 ⟨rfl, hb1⟩))
    go_ret2
    exact ⟨none, 0, 0, rfl, TmR.nil _ _ _, hb0.trans (hb1.mono hb0.size)⟩
  | some k =>
    obtain ⟨hok, hl31, hk30, hfine⟩ := released_ok hX hk
    have e : releasedC X nm = makeC [⟨nm, notS (versS k.1), false⟩] := by unfold releasedC; rw [hk]
    rw [e]
    rw [hk] at HH
    rw [at_get hk] at HG
    have hv := vers_len k.1
    have HM := hide (fun (wx : World) (Aq : Option Addr) (cq : Nat) (hq : TmR wx wx.heap.size Aq 1 [⟨nm, notS (versS k.1), false⟩]) => refMakeR_any [⟨nm, notS (versS k.1), false⟩] Aq 1 cq wx hq (fun t ht => by rw [List.mem_singleton.1 ht]; exact hok) (by rw [sumC_cons]; show _ + 0 ≤ _; simp only; omega) (by omega))
    unfold MakesR at HM
    have HV := hide (fun (wx : World) (A1 : Option Addr) (n1 c1 : Nat) (hx : RlOn wx A1 n1 k.1) => refVersM_any nm k.1 A1 n1 c1 wx hx (by have := hx.len; omega))
    unfold Makes at HV
    have HN := hide (fun (wx : World) (A1 : Option Addr) (n1 c1 : Nat) (hx : SpOn wx A1 n1 (versS k.1)) => @refNot_any wx.heap.size n1 c1 A1 (versS k.1) wx hx (Nat.le_refl _) (by have := hx.len; omega))
    generalize makeC [⟨nm, notS (versS k.1), false⟩] = R at *
    generalize notS (versS k.1) = U at *
    have hb0s := hb0.size
    have Hb0 := hide (⟨(Blk.new w 33 #[.slice A n c])⟩ : Nonempty (Blk (w.alloc (.cells #[.slice A n c] 33)) w.heap.size 33 #[.slice A n c]))
    clear e hk h hX hok hl31 hk30 hfine hv
    go_enter Tryz.func13, Tryz.ntmps13
    go_wp2_with (first
      | (go_at_call 37
         refine (HH.out _ hb0).mono ?_
         rintro e w1 ⟨rfl, hb1x⟩
         have hb1 := hb0.trans (hb1x.mono hb0s)
         have q0 := (((Blk.new w 33 #[.slice A n c]).below hb1x (by simp)).cell 0).trans (show (#[Value.slice A n c] : Array Value)[0]? = some (.slice A n c) from rfl))
      | (go_at_call 38
         refine (HG.out _ hb1).mono ?_
         rintro e w2 ⟨A2, n2, c2, B2, r2, rfl, hR2, hb2x⟩
         have hb2 := hb1.trans (hb2x.mono hb1.size)
         have hb2a := hb2.alloc hb2.size (.cells #[.string nm, .slice A2 n2 c2] 75)
         have hR2a := hR2.below (alloc_b (.cells #[.string nm, .slice A2 n2 c2] 75))
         have hT2 := rls_on hR2a)
      | (go_at_call 40
         refine (HV.out _ _ _ _ hT2).mono ?_
         rintro e w3 ⟨A3, n3, c3, rfl, h3, hb3x⟩
         have hb3 := hb2a.trans (hb3x.mono hb2a.size))
      | (go_at_call 39
         refine (HN.out _ _ _ _ h3).mono ?_
         rintro e w4 ⟨A4, n4, c4, rfl, hN4, hb4x⟩
         have hb4 := hb3.trans (hb4x.mono hb3.size)
         have hR4 := one_tmR w4 nm A4 n4 c4 false (InS.of_new hN4) _ rfl
         have hb5 := hb4.alloc hb4.size (.cells #[.string nm, .slice A4 n4 c4, .bool false] 65))
      | (go_at_call 32
         refine (HM.out _ _ _ hR4).mono ?_
         rintro e w6 ⟨A6, n6, c6, rfl, h6, hb6x⟩
         have hb6 := hb5.trans (hb6x.mono hb5.size)))
    go_ret2
    exact ⟨A6, n6, c6, rfl, h6, hb6⟩
theorem refOneIn_any (p : Int) (h0 : 0 ≤ p) (h1 : p < 1000000000) (w : World) :
    Calls Tryz.prog 44 #[.int .i64 p] w fun e w' => ∃ A n c, e = .returned (.slice A n c) ∧ InS w' 0 A n (atS p) ∧ Below w.heap.size w w' := by
  have hrd := hide (spIn_of_reads (reads_one w p (p + 1) _ rfl))
  go_enter Tryz.func44, Tryz.ntmps44
  go_wp2
  go_ret
  exact ⟨some ⟨w.heap.size, 0, none⟩, 1, 1, rfl, ⟨(hrd.out).more (by simp), fun ad hA _ => .inr ⟨_, _, by injection hA with hA; subst hA; exact heap_alloc_new w _⟩⟩, (Below.refl _ _).alloc (Nat.le_refl _) _⟩
theorem needed_none {X : List Kn} {nm tn : ByteArray} {v : Int} (h : relX X nm v = none) : neededC X nm v tn = none := by unfold neededC; rw [h]
theorem needed_ok1 {X : List Kn} (hX : OkX X) {nm tn : ByteArray} {v : Int} {r : Rl} {s : List S} (h : relX X nm v = some r) (hs : findS r.2 tn = some s) :
    (0 ≤ v ∧ v < 1000000000) ∧ okT ⟨nm, atS v, false⟩ = true ∧ okT (unmetT tn s) = true ∧ (unmetT tn s).set.length ≤ 7 ∧ s.length ≤ 6 := by
  obtain ⟨k, hk, hr, hv⟩ := rel_known h
  have hin := atX_in hk
  have hver := hX.vers _ hin r hr
  rw [hv] at hver
  have hok : okS r.2 = true := hX.sets _ hin r hr
  obtain ⟨ho, _, _, hsets⟩ := okS_parts hok
  have hq := find_in hs
  have hset : isSet (-1) s = true ∧ s.length ≤ 6 := hsets _ hq
  refine ⟨hver, one_ok (known_fit hX.fits hk) ?_, unmet_ok s (ok_all ho _ hq).2.1, unmet_len hset.1 hset.2, hset.2⟩
  rw [← at_one hver.1 hver.2]
  exact nf_set _
set_option maxHeartbeats 8000000 in
set_option maxRecDepth 100000 in
theorem refNeeded_any (X : List Kn) (nm : ByteArray) (v : Int) (tn : ByteArray) (A : Option Addr) (n c : Nat) (w : World) (h : InK w A n X) (hX : OkX X) :
    Calls Tryz.prog 15 #[.agg #[.slice A n c], .string nm, .int .i64 v, .string tn] w (MakesR w (neededC X nm v tn)) := by
  unfold MakesR
  have hn : n ≤ 100 := by rw [← h.len]; exact hX.few
  have hb0 := alloc_b (w := w) (.cells #[.slice A n c] 33)
  have hf := hX.fine.get nm
  have HG := hide (refGetX_any X nm A n c _ (h.below hb0) (by omega))
  unfold Gots at HG
  have HR := hide (fun (wx : World) (A1 : Option Addr) (n1 c1 : Nat) (hx : RlOn wx A1 n1 (getX X nm).1) => refGetM_any v nm (getX X nm).1 A1 n1 c1 wx hx hf)
  unfold Gets at HR
  have hrel : getR (getX X nm).1 v = relX X nm v := rfl
  rw [hrel] at HR
  have HF := hide (fun (wx : World) (A1 : Option Addr) (n1 c1 : Nat) (hx : NdOn wx A1 n1 ((relX X nm v).getD (0, [])).2) (h1 : n1 ≤ 100) => refFindN_any ((relX X nm v).getD (0, [])).2 tn A1 n1 c1 wx hx (by omega))
  unfold Finds at HF
  have hlen : ((relX X nm v).getD (0, [])).2.length ≤ 100 := by
    cases hr : relX X nm v with
    | none => simp
    | some r =>
      obtain ⟨k, hk, hr1, _⟩ := rel_known hr
      have := (okS_parts (hX.sets _ (atX_in hk) r hr1)).2.1
      show r.2.length ≤ 100
      omega
  cases hr : relX X nm v with
  | none =>
    rw [needed_none hr]
    rw [hr] at HR HF hlen
    simp only [Option.getD_none, Option.isSome_none] at HR HF
    rw [show findS [] tn = none from rfl] at HF
    have HL := hide hlen
    simp only [Option.getD_none] at HL
    clear hr h hX hf hrel hlen
    go_enter Tryz.func15, Tryz.ntmps15
    go_wp2_with (first
      | (go_at_call 31
         refine (HF.out _ _ _ _ h3a (by have := h3a.len; have := HL.out; omega)).mono ?_
         rintro e w4 ⟨A4, n4, c4, rfl, h4, hb4x⟩
         have hb4 := hb3a.trans (hb4x.mono hb3a.size))
      | (go_at_call 43
         refine (HR.out _ _ _ _ hT2).mono ?_
         rintro e w3 ⟨A3, n3, c3, rfl, h3, hb3x⟩
         have hb3 := hb2a.trans (hb3x.mono hb2a.size)
         have hb3a := hb3.alloc hb3.size (.cells #[.int .i64 0, .slice A3 n3 c3] 82)
         have h3a := h3.on (alloc_b (.cells #[.int .i64 0, .slice A3 n3 c3] 82)))
      | (go_at_call 38
         refine HG.out.mono ?_
         rintro e w2 ⟨A2, n2, c2, B2, r2, rfl, hR2, hb2x⟩
         have hb2 := hb0.trans (hb2x.mono hb0.size)
         have hb2a := hb2.alloc hb2.size (.cells #[.string nm, .slice A2 n2 c2] 75)
         have hR2a := hR2.below (alloc_b (.cells #[.string nm, .slice A2 n2 c2] 75))
         have hT2 := rls_on hR2a))
    go_ret2
    exact ⟨none, 0, 0, rfl, TmR.nil _ _ _, hb4⟩
  | some r =>
    rw [hr] at HR HF hlen
    simp only [Option.getD_some, Option.isSome_some] at HR HF hlen
    have HL := hide hlen
    clear hlen
    cases hs : findS r.2 tn with
    | none =>
      have e : neededC X nm v tn = none := by unfold neededC; rw [hr]; simp only; rw [hs]
      rw [e]
      rw [hs] at HF
      clear e hr hs h hX hf hrel
      go_enter Tryz.func15, Tryz.ntmps15
      go_wp2_with (first
        | (go_at_call 31
           refine (HF.out _ _ _ _ h3a (by have := h3a.len; have := HL.out; omega)).mono ?_
           rintro e w4 ⟨A4, n4, c4, rfl, h4, hb4x⟩
           have hb4 := hb3a.trans (hb4x.mono hb3a.size))
        | (go_at_call 43
           refine (HR.out _ _ _ _ hT2).mono ?_
           rintro e w3 ⟨A3, n3, c3, rfl, h3, hb3x⟩
           have hb3 := hb2a.trans (hb3x.mono hb2a.size)
           have hb3a := hb3.alloc hb3.size (.cells #[.int .i64 r.1, .slice A3 n3 c3] 82)
           have h3a := h3.on (alloc_b (.cells #[.int .i64 r.1, .slice A3 n3 c3] 82)))
        | (go_at_call 38
           refine HG.out.mono ?_
           rintro e w2 ⟨A2, n2, c2, B2, r2, rfl, hR2, hb2x⟩
           have hb2 := hb0.trans (hb2x.mono hb0.size)
           have hb2a := hb2.alloc hb2.size (.cells #[.string nm, .slice A2 n2 c2] 75)
           have hR2a := hR2.below (alloc_b (.cells #[.string nm, .slice A2 n2 c2] 75))
           have hT2 := rls_on hR2a))
      go_ret2
      exact ⟨none, 0, 0, rfl, TmR.nil _ _ _, hb4⟩
    | some s =>
      have e : neededC X nm v tn = makeC [⟨nm, atS v, false⟩, unmetT tn s] := by unfold neededC; rw [hr]; simp only; rw [hs]
      rw [e]
      rw [hs] at HF
      obtain ⟨hv, ho1, ho2, hl7, hs6⟩ := needed_ok1 hX hr hs
      have HO := hide (fun (wx : World) => refOneIn_any v hv.1 hv.2 wx)
      have HU := hide (fun (wx : World) (A1 : Option Addr) (n1 c1 : Nat) (hx : SpOn wx A1 n1 s) => refUnmet_any tn s A1 n1 c1 wx hx (by have := hx.len; omega))
      unfold Term.MakesT at HU
      have HM := hide (fun (wx : World) (Aq : Option Addr) (cq : Nat) (hq : TmR wx wx.heap.size Aq 2 [⟨nm, atS v, false⟩, unmetT tn s]) => refMakeR_any [⟨nm, atS v, false⟩, unmetT tn s] Aq 2 cq wx hq (fun t ht => by
        rcases List.mem_cons.1 ht with rfl | ht
        · exact ho1
        · rw [List.mem_singleton.1 ht]; exact ho2) (by rw [sumC_cons, sumC_cons]; show 1 + (_ + 0) ≤ _; omega) (by omega))
      unfold MakesR at HM
      simp only [Option.getD_some, Option.isSome_some] at HF
      generalize makeC [⟨nm, atS v, false⟩, unmetT tn s] = R at *
      generalize unmetT tn s = U at *
      generalize atS v = Z at *
      clear e hr hs h hX hf hrel ho1 ho2 hl7 hv
      go_enter Tryz.func15, Tryz.ntmps15
      go_wp2_with (first
        | (go_at_call 32
           refine (HM.out _ _ _ hR6).mono ?_
           rintro e w8 ⟨A8, n8, c8, rfl, h8, hb8x⟩
           have hb8 := hb7.trans (hb8x.mono hb7.size))
        | (go_at_call 33
           refine (HU.out _ _ _ _ h45).mono ?_
           rintro e w6 ⟨A6, n6, c6, rfl, hN6, hb6x⟩
           have hb6 := hb5.trans (hb6x.mono hb5.size)
           have hR6 := two_tmR w6 nm A5 n5 c5 false U.name A6 n6 c6 U.none (hI5.below hb6x) (InS.of_new hN6) _ rfl
           have hb7 := hb6.alloc hb6.size (.cells #[.string nm, .slice A5 n5 c5, .bool false, .string U.name, .slice A6 n6 c6, .bool U.none] 65))
        | (go_at_call 44
           refine (HO.out _).mono ?_
           rintro e w5 ⟨A5, n5, c5, rfl, hI5, hb5x⟩
           have hb5 := hb4.trans (hb5x.mono hb4.size)
           have h45 := h4.on hb5x)
        | (go_at_call 31
           refine (HF.out _ _ _ _ h3a (by have := h3a.len; have := HL.out; omega)).mono ?_
           rintro e w4 ⟨A4, n4, c4, rfl, h4, hb4x⟩
           have hb4 := hb3a.trans (hb4x.mono hb3a.size))
        | (go_at_call 43
           refine (HR.out _ _ _ _ hT2).mono ?_
           rintro e w3 ⟨A3, n3, c3, rfl, h3, hb3x⟩
           have hb3 := hb2a.trans (hb3x.mono hb2a.size)
           have hb3a := hb3.alloc hb3.size (.cells #[.int .i64 r.1, .slice A3 n3 c3] 82)
           have h3a := h3.on (alloc_b (.cells #[.int .i64 r.1, .slice A3 n3 c3] 82)))
        | (go_at_call 38
           refine HG.out.mono ?_
           rintro e w2 ⟨A2, n2, c2, B2, r2, rfl, hR2, hb2x⟩
           have hb2 := hb0.trans (hb2x.mono hb0.size)
           have hb2a := hb2.alloc hb2.size (.cells #[.string nm, .slice A2 n2 c2] 75)
           have hR2a := hR2.below (alloc_b (.cells #[.string nm, .slice A2 n2 c2] 75))
           have hT2 := rls_on hR2a))
      go_ret2
      exact ⟨A8, n8, c8, rfl, h8, hb8⟩
end Go.Proofs.YtpicnbidbddggaaGreat.Fact
/-
  How long facts are. No program but as a name of what may be walked.
-/
namespace Go.Proofs.YtpicnbidbddggaaGreat.Fact
open Go Go.RowKit Go.Lib Go.Proofs.YtpicnbidbddggaaGreat.Label Go.Proofs.YtpicnbidbddggaaGreat.Span Go.Proofs.YtpicnbidbddggaaGreat.Need Go.Proofs.YtpicnbidbddggaaGreat.Mani Go.Proofs.YtpicnbidbddggaaGreat.Wire Go.Proofs.YtpicnbidbddggaaGreat.Depot Go.Proofs.YtpicnbidbddggaaGreat.Index Go.Proofs.YtpicnbidbddggaaGreat.Reach Go.Proofs.YtpicnbidbddggaaGreat.Pick Go.Proofs.YtpicnbidbddggaaGreat.Fit Go.Proofs.YtpicnbidbddggaaGreat.Term Go.Proofs.YtpicnbidbddggaaGreat.Clash
set_option linter.unusedVariables false
def FinC (c : List Tm) : Prop := ShortT c ∧ c.length ≤ 1000 ∧ ∀ t ∈ c, isSet (-1) t.set = true
theorem FinC.nil : FinC [] := ⟨(fun t ht => by cases ht), by simp, (fun t ht => by cases ht)⟩
theorem make_len {l m : List Tm} (h : makeC l = some m) : m.length ≤ l.length := by
  unfold makeC at h
  split at h
  · cases h
  · injection h with h
    rw [← h]
    have h1 : ((putsC l).filter fun t => !fullT t).length ≤ (putsC l).length := List.length_filter_le _ _
    have h2 := puts_length l l.length (Nat.le_refl _)
    rw [List.take_length] at h2
    omega
theorem fin_make {l : List Tm} (hl : ∀ t ∈ l, okT t = true) (hn : l.length ≤ 2) : FinC ((makeC l).getD []) := by
  cases h : makeC l with
  | none => exact FinC.nil
  | some m =>
    have ho := make_ok hl h
    have hm := make_len h
    exact ⟨fun t ht => len_le (okT_set (ho.2 t ht).1), by show m.length ≤ 1000; omega, fun t ht => okT_set (ho.2 t ht).1⟩
theorem fin_asked {root : List Nd} (hok : okS root = true) (nm : ByteArray) : FinC ((askedC root nm).getD []) := by
  unfold askedC
  cases h : findS root nm with
  | none => exact FinC.nil
  | some s => exact fin_make (fun t ht => by rw [List.mem_singleton.1 ht]; exact unmet_ok s (ok_all (okS_parts hok).1 _ (find_in h)).2.1) (by simp)
theorem fin_released {X : List Kn} (hX : OkX X) (nm : ByteArray) : FinC ((releasedC X nm).getD []) := by
  unfold releasedC
  cases h : atX X nm with
  | none => exact FinC.nil
  | some k => exact fin_make (fun t ht => by rw [List.mem_singleton.1 ht]; exact (released_ok hX h).1) (by simp)
theorem fin_needed {X : List Kn} (hX : OkX X) (nm : ByteArray) (v : Int) (tn : ByteArray) : FinC ((neededC X nm v tn).getD []) := by
  unfold neededC
  cases h : relX X nm v with
  | none => exact FinC.nil
  | some r =>
    simp only
    cases hs : findS r.2 tn with
    | none => exact FinC.nil
    | some s =>
      obtain ⟨_, h1, h2, _, _⟩ := needed_ok1 hX h hs
      exact fin_make (fun t ht => by
        rcases List.mem_cons.1 ht with rfl | ht
        · exact h1
        · rw [List.mem_singleton.1 ht]; exact h2) (by simp)
theorem fin_root {root : List Nd} (hok : okS root = true) : ∀ c ∈ (rootP root).map Prod.fst, FinC c := by
  rw [root_fst]
  intro c hc
  obtain ⟨q, hq, rfl⟩ := List.mem_map.1 hc
  exact fin_asked hok q.1
theorem fin_all {X : List Kn} (hX : OkX X) (nm : ByteArray) : ∀ c ∈ (allP X nm).map Prod.fst, FinC c := by
  rw [all_fst]
  intro c hc
  rcases all_cases hc with h | ⟨r, hr, q, hq, h⟩
  · have := fin_released hX nm
    rw [h] at this
    exact this
  · have := fin_needed hX nm r.1 q.1
    rw [h] at this
    exact this
theorem root_len (root : List Nd) : (rootP root).length = root.length := asked_len root root
theorem all_len {X : List Kn} (hX : OkX X) (nm : ByteArray) : (allP X nm).length ≤ 1300 := by
  unfold allP
  split
  · have hf := hX.fine.get nm
    have h1 := rels_len X nm (getX X nm).1 fun r hr => (hf.2 r hr).1
    have h2 := hf.1
    rw [List.length_cons]
    omega
  · simp
theorem sameC_yes (L : List Tm) (A A' : Option Addr) (n c n' c' : Nat) (w : World) (h : TmOn w A n L) (h' : TmOn w A' n' L) (hL : FinC L) :
    Calls Tryz.prog 16 #[.slice A n c, .slice A' n' c'] w fun e w' => e = .returned (.bool true) ∧ Below w.heap.size w w' := by
  have := refSameC_any L L A A' n c n' c' w h h' hL.1 hL.1 (by have := TmIn.len h; have := hL.2.1; omega)
  rw [decide_eq_true rfl] at this
  exact this
end Go.Proofs.YtpicnbidbddggaaGreat.Fact
/-
  The contract of the document's own Root of facts. Condition: needs that may be.
-/
namespace Go.Proofs.YtpicnbidbddggaaGreat.Fact
open Go Go.RowKit Go.Lib Go.Proofs.YtpicnbidbddggaaGreat.Span Go.Proofs.YtpicnbidbddggaaGreat.Need Go.Proofs.YtpicnbidbddggaaGreat.Mani Go.Proofs.YtpicnbidbddggaaGreat.Index Go.Proofs.YtpicnbidbddggaaGreat.Grow Go.Proofs.YtpicnbidbddggaaGreat.Term Go.Proofs.YtpicnbidbddggaaGreat.Clash Go.Proofs.YtpicnbidbddggaaGreat.Fit
open Go.Proofs.YtpicnbidbddggaaGreat.Label (runes fitL)
set_option linter.unusedVariables false
theorem one_slice (A : Option Addr) (n c : Nat) : ∀ u ∈ [Value.slice A n c], u.oneCell' = true := by
  intro u hu
  rw [List.mem_singleton.1 hu]; rfl
set_option maxHeartbeats 8000000 in
set_option maxRecDepth 100000 in
theorem refRoot_any (root : List Nd) (A : Option Addr) (n c : Nat) (w : World) (h : NdOn w A n root) (hn : n ≤ 1000) (hok : okS root = true) :
    Calls Tryz.prog 18 #[.slice A n c] w (FactsC w ((rootP root).map Prod.fst) ((rootP root).map Prod.snd)) := by
  unfold FactsC
  obtain ⟨i0, hi0, hz0, hz1, hz2⟩ := info_parts info_terms
  obtain ⟨j0, hj0, jz0, jz1, jz2⟩ := info_parts info_step
  have hlen := hide h.len
  have HP := hide (fun (i : Nat) (q : Nd) (hx : root[i]? = some q) => asked_take root root hx)
  have HA := hide (fun (wx : World) (hx : Below w.heap.size w wx) (nm : ByteArray) => refAsked_any root nm A n c wx (h.on hx) (by omega) hok)
  unfold MakesR at HA
  have Hend : Hid (askedP root (root.take n) = rootP root) := hide (by rw [List.take_of_length_le (by rw [hlen.out]; exact Nat.le_refl _)]; rfl)
  generalize rootP root = RP at *
  clear hok
  go_enter Tryz.func18, Tryz.ntmps18
  go_wp2
  go_loopw [4, 5, 6] (fun u s v wr => ∃ (i : Nat) (vs : List Value), i ≤ n ∧ v = .int .i64 (i : Int) ∧ Fcs wr w.heap.size u i vs ((askedP root (root.take i)).map Prod.fst) ∧ wr.ownsRow w.heap.size 93 6 s i (sps ((askedP root (root.take i)).map Prod.snd)) ∧ Below w.heap.size w wr) (fun _ _ v _ => n - (RowKit.intOf v).toNat)
  case atStart => exact ⟨0, [], by omega, rfl, Fcs.nil_ _ _, World.ownsRow_nil _ _ _ _, Below.refl _ _⟩
  case round =>
    obtain ⟨i, vs, hi, rfl, hF, hS, hb⟩ := hrel
    have hbs := hb.size
    obtain ⟨Af, cf, rfl, _, hFt⟩ := hF.told
    obtain ⟨As, cs, rfl, _, hSt⟩ := own_steps hS
    by_cases hlt : i < n
    · obtain ⟨ad, q, A', n', c', rfl, hbl, hx, hs, c1, c2⟩ := NdIn.at_ (NdIn.below h hb) hlt
      have hE := HP.out i q hx
      have hE1 := hide (show (askedP root (root.take (i + 1))).map Prod.fst = (askedP root (root.take i)).map Prod.fst ++ [(askedC root q.1).getD []] by rw [hE, List.map_append]; rfl)
      have hE2 := hide (show sps ((askedP root (root.take (i + 1))).map Prod.snd) = sps ((askedP root (root.take i)).map Prod.snd) ++ sps [askedStep q.1] by rw [hE, List.map_append, sps_append]; rfl)
      have HC := hide (fun (wx : World) (hbx : Below w.heap.size w wx) => (hbx.cell (p := ad.add (i * 2)) (by rw [block_of_add]; exact hbl)))
      have HC1 : Hid (∀ wx, Below w.heap.size wr wx → wx.cell? (ad.add (i * 2)) = some (.string q.1)) := hide (fun wx hbx => (hbx.cell (by rw [block_of_add]; exact hbl)).trans c1)
      have HAq := hide (HA.out wr hb q.1)
      obtain ⟨nm, s⟩ := q
      simp only [] at c1 c2 hs hE1 hE2 HC1 HAq
      generalize askedC root nm = R at *
      generalize (askedP root (root.take i)).map Prod.fst = L1 at *
      generalize (askedP root (root.take i)).map Prod.snd = L2 at *
      clear hE hx hs HC HA HP h Hend hFt hSt
      go_upto_region 8 with (first
        | (go_at_call 11
           refine HAq.out.mono ?_
           rintro e w1 ⟨A1, n1, c1', rfl, h1, hb1⟩
           have hF1 := hF.below hb1
           have hS1 := own_below hS hb1
           have hb1w := hb.trans (hb1.mono hbs)
           have hb1s := hb1w.size)
        | (at_builtin
           refine wpList_append_any _ rfl (.tmp 25) (.tmp 27) _ rfl w.heap.size 35 i0 _ 1 24 Tryz.underlying43 hi0 hz0 hz1 hz2 rfl (by omega) _ i vs rfl
             (own_below hF1.1 (alloc_b _)) _ _ 1 _ _ rfl (Reads.new1 _ _ _) (one_slice _ _ _) (by unfold maxLen; omega) (by omega) (by simp; omega) ?_
           intro v3 w3 hown3 hg3 hat3
           have hA3 := (alloc_b (w := w1) (.cells #[.slice A1 n1 c1'] 35))
           have hF3 := (hF1.below hA3).cat (AllF.one (k := c1') (h1.on hA3)) hown3 hg3
           have hS3 := own_far (own_below hS1 hA3) (farT_own (own_below hF1.1 hA3) (by decide)) hg3
           have hr3 : Below w.heap.size wr w3 := ((hb1.mono hbs).trans (hA3.mono hb1s)).grown hg3 (by simp; omega) (fun k hk => (hF1.1.lt k hk).1)
           have hb3 : Below w.heap.size w w3 := hb.trans hr3
           have hb3s := hb3.size
           have c3 := HC1.out _ hr3))
      rw [← hE1.out] at hF3
      obtain ⟨A3, c3', rfl, _, _⟩ := hF3.told
      clear hF1 hS1 hF hb1 hA3 hg3 hown3 h1
      go_wp2_with (first
        | (at_builtin
           refine wpList_append_any _ rfl (.tmp 29) (.tmp 36) _ rfl w.heap.size 93 j0 _ 6 64 Tryz.underlying44 hj0 jz0 jz1 jz2 rfl (by omega) _ i (sps L2) rfl
             (own_below hS3 (alloc_b _)) _ _ 1 _ _ rfl (reads_step _ (askedStep nm) _ _ (by simp)) (sps_one _) (by unfold maxLen; omega) (by omega) (by simp; omega) ?_
           intro v4 w4 hown4 hg4 hat4
           have hA4 := (alloc_b (w := w3) (.cells #[.int .i64 1, .string nm, .int .i64 0, .string ⟨#[]⟩, .int .i64 0, .int .i64 0] 93))
           have hS4a := own_below hS3 hA4
           have hF4 := (hF3.below hA4).far (farT_own hS4a (by decide)) (farT_own hS4a (by decide)) (farT_own hS4a (by decide)) hg4
           have hb4 : Below w.heap.size w w4 := (hb3.trans (hA4.mono hb3s)).grown hg4 (by simp; omega) (fun k hk => (hS3.lt k hk).1)))
      rw [← hE2.out] at hown4
      go_roundw
      case rel => exact ⟨i + 1, _, by omega, by go_num, hF4, hown4, hb4⟩
      case measure => simp [RowKit.intOf]; omega
    · have hi2 : i = n := by omega
      rw [hi2, Hend.out] at hFt hSt
      clear hF hS HP HA h
      go_wp2
      go_ret2
      first | exact ⟨Af, _, cf, As, _, cs, rfl, hFt, hSt, hb⟩ | (subst hi2; exact ⟨Af, _, cf, As, _, cs, rfl, hFt, hSt, hb⟩)
end Go.Proofs.YtpicnbidbddggaaGreat.Fact
/-
  The contract of the document's own All of facts. Condition: an index that was put together.
-/
namespace Go.Proofs.YtpicnbidbddggaaGreat.Fact
open Go Go.RowKit Go.Lib Go.Proofs.YtpicnbidbddggaaGreat.Span Go.Proofs.YtpicnbidbddggaaGreat.Need Go.Proofs.YtpicnbidbddggaaGreat.Mani Go.Proofs.YtpicnbidbddggaaGreat.Index Go.Proofs.YtpicnbidbddggaaGreat.Grow Go.Proofs.YtpicnbidbddggaaGreat.Term Go.Proofs.YtpicnbidbddggaaGreat.Clash Go.Proofs.YtpicnbidbddggaaGreat.Fit
open Go.Proofs.YtpicnbidbddggaaGreat.Label (runes fitL)
set_option linter.unusedVariables false
structure AllR (w : World) (X : List Kn) (nm : ByteArray) (A : Option Addr) (n c gX gm : Nat) (A2 : Option Addr) (n2 c2 B2 : Nat) (r2 : List Vr) (L : List Rl) : Prop where
  bx : Blk w gX 33 #[.slice A n c]
  bm : Blk w gm 75 #[.string nm, .slice A2 n2 c2]
  ik : InK w A n X
  rl : Rls w B2 (.slice A2 n2 c2) n2 r2 L
section
variable {w w' : World} {X : List Kn} {nm : ByteArray} {A : Option Addr} {n c gX gm : Nat} {A2 : Option Addr} {n2 c2 B2 : Nat} {r2 : List Vr} {L : List Rl}
theorem AllR.below (h : AllR w X nm A n c gX gm A2 n2 c2 B2 r2 L) (hb : Below w.heap.size w w') : AllR w' X nm A n c gX gm A2 n2 c2 B2 r2 L :=
  ⟨h.bx.below hb h.bx.lt, h.bm.below hb h.bm.lt, h.ik.below hb, h.rl.below hb⟩
theorem AllR.far {T : TypeId} {B size k : Nat} {v : Value} {xs : List Value} (h : AllR w X nm A n c gX gm A2 n2 c2 B2 r2 L) (hT : T = 35 ∨ T = 93) (hown : w.ownsRow B T size v k xs) (hg : w.grownBy w' v.ownBlock) : AllR w' X nm A n c gX gm A2 n2 c2 B2 r2 L := by
  have ne : 33 ≠ T ∧ 75 ≠ T ∧ 63 ≠ T ∧ 56 ≠ T ∧ 82 ≠ T ∧ 109 ≠ T := by
    rcases hT with rfl | rfl <;> decide
  obtain ⟨e1, e2, e3, e4, e5, e6⟩ := ne
  have f : ∀ {T' : TypeId}, T' ≠ T → FarT w T' v.ownBlock := fun hne => farT_own hown hne
  exact ⟨h.bx.grown hg (f e1 _ _ _ h.bx), h.bm.grown hg (f e2 _ _ _ h.bm), h.ik.far (f e3) (f e4) (f e5) (f e6) hg, h.rl.far (f e3) (f e4) (f e5) hg⟩
end
theorem rls_at {w : World} {B n c k : Nat} {A : Option Addr} {rs : List Vr} {l : List Rl} (h : Rls w B (.slice A n c) n rs l) (hk : k < n) :
    ∃ ad q A' n' c', A = some ad ∧ ad.block < w.heap.size ∧ l[k]? = some q ∧ rs[k]? = some (q.1, .slice A' n' c') ∧ NdOn w A' n' q.2 ∧ w.cell? (ad.add (k * 2)) = some (.int .i64 q.1) ∧ w.cell? ⟨(ad.add (k * 2)).block, (ad.add (k * 2)).off + 1, none⟩ = some (.slice A' n' c') := by
  obtain ⟨Ax, cx, e, _, _, hr⟩ := own_form h.1
  injection e with e1 e2 e3
  subst e1
  obtain ⟨ad, hA, hb, hc⟩ := hr.2 (by omega)
  have hl : rs.length = n := by
    have h1 := h.1.1
    rw [vcs_length] at h1
    omega
  have hl2 := h.2.1
  obtain ⟨f1, A', n', c', f2, hs⟩ := h.2.2 k (rs[k]'(by omega)) (l[k]'(by omega)) (by simp) (by simp)
  obtain ⟨g1, g2⟩ := vcs_get rs k (rs[k]'(by omega)) (by simp)
  refine ⟨ad, l[k]'(by omega), A', n', c', hA, hb, by simp, ?_, hs.on, ?_, ?_⟩
  · rw [List.getElem?_eq_getElem (by omega), ← f1, ← f2]
  · rw [← f1]; exact hc _ _ g1
  · rw [← add_field, ← f2]; exact hc _ _ g2
theorem own_oneF (w : World) (A : Option Addr) (n c B : Nat) (hB : B ≤ w.heap.size) : (w.alloc (.cells #[.slice A n c] 35)).ownsRow B 35 1 (.slice (some ⟨w.heap.size, 0, none⟩) 1 1) 1 [.slice A n c] :=
  ⟨rfl, .inr ⟨w.heap.size, 1, _, rfl, hB, heap_alloc_new w _, Nat.le_refl _, by decide, rfl, rfl⟩⟩
theorem own_oneS (w : World) (q : Sp) (B : Nat) (hB : B ≤ w.heap.size) : (w.alloc (.cells #[.int .i64 q.kind, .string q.name, .int .i64 q.ver, .string q.dest, .int .i64 q.a, .int .i64 q.b] 93)).ownsRow B 93 6 (.slice (some ⟨w.heap.size, 0, none⟩) 1 1) 1 (sps [q]) :=
  ⟨rfl, .inr ⟨w.heap.size, 1, _, rfl, hB, heap_alloc_new w _, Nat.le_refl _, by decide, rfl, rfl⟩⟩
def mkO (R : Option (List Tm)) : Rel := fun w v => ∃ A n c, v = .tuple #[.slice A n c, .bool R.isSome] ∧ TmR w w.heap.size A n (R.getD [])
theorem mkO_stable (R : Option (List Tm)) : ∀ w w' v, Below w.heap.size w w' → mkO R w v → mkO R w' v := fun _ _ _ hb ⟨A, n, c, hv, h⟩ => ⟨A, n, c, hv, h.on hb⟩
theorem tuple_d (u v : Value) : Value.tuple #[u, v] ≠ undef := by
  intro h
  injection h with h
  exact absurd (congrArg Array.size h) (by simp)
theorem tuple_inj {A A' : Option Addr} {n c n' c' : Nat} {v v' : Value} (h : Value.tuple #[.slice A n c, v] = .tuple #[.slice A' n' c', v']) : A = A' ∧ n = n' ∧ c = c' := by
  injection h with h
  have := congrArg (fun l : Array Value => l[0]?) h
  simp at this
  exact this
def rowS (q : Sp) : Rel := fun w v => ∃ A c, v = .slice A 1 c ∧ Reads w w.heap.size 6 A 1 (sps [q])
theorem rowS_stable (q : Sp) : ∀ w w' v, Below w.heap.size w w' → rowS q w v → rowS q w' v := fun _ _ _ hb ⟨A, c, hv, h⟩ => ⟨A, c, hv, (h.below hb).more hb.size⟩
def putsS (B n : Nat) (l : List Sp) (x : Value) (q : Sp) : Wr := fun w1 v w2 => w2.ownsRow B 93 6 v (n + 1) (sps l ++ sps [q]) ∧ w1.grownBy w2 x.ownBlock
set_option maxHeartbeats 16000000 in
set_option maxRecDepth 100000 in
theorem refAll_any (X : List Kn) (nm : ByteArray) (A : Option Addr) (n c : Nat) (w : World) (h : InK w A n X) (hX : OkX X) :
    Calls Tryz.prog 20 #[.agg #[.slice A n c], .string nm] w (FactsC w ((allP X nm).map Prod.fst) ((allP X nm).map Prod.snd)) := by
  unfold FactsC
  obtain ⟨i0, hi0, hz0, hz1, hz2⟩ := info_parts info_terms
  obtain ⟨j0, hj0, jz0, jz1, jz2⟩ := info_parts info_step
  have hn : n ≤ 100 := by rw [← h.len]; exact hX.few
  have hb0 := alloc_b (w := w) (.cells #[.slice A n c] 33)
  have HRl := hide (fun (wx : World) (hx : Below w.heap.size w wx) => refReleased_any X nm A n c wx (h.below hx) hX)
  have HG := hide (fun (wx : World) (hx : Below w.heap.size w wx) => refGetX_any X nm A n c wx (h.below hx) (by omega))
  have HNd := hide (fun (wx : World) (hx : InK wx A n X) (v : Int) (tn : ByteArray) => refNeeded_any X nm v tn A n c wx hx hX)
  unfold MakesR at HRl HNd
  unfold Gots at HG
  have hfine := hX.fine.get nm
  cases hr : releasedC X nm with
  | none =>
    have e : allP X nm = [] := by unfold allP; rw [hr]
    rw [e]
    rw [hr] at HRl
    clear e hr h hX HG HNd hfine
    go_enter Tryz.func20, Tryz.ntmps20
    go_wp2_with (first
      | (go_at_call 13
         refine (HRl.out _ hb0).mono ?_
         rintro e w1 ⟨A1, n1, c1, rfl, h1, hb1⟩))
    go_ret2
    exact ⟨none, 0, 0, none, 0, 0, rfl, FcIn.nil _ _ _, SsIn.nil _ _ _, hb0.trans (hb1.mono hb0.size)⟩
  | some c0 =>
    have eP : allP X nm = (c0, releasedStep nm) :: relsP X nm (getX X nm).1 := by unfold allP; rw [hr]
    rw [eP]
    rw [hr] at HRl
    simp only [Option.getD_some, Option.isSome_some] at HRl
    have hlenL : (getX X nm).1.length ≤ 30 := hfine.1
    have h40 : ∀ r ∈ (getX X nm).1, r.2.length ≤ 40 := fun r hr => (hfine.2 r hr).1
    have HT1 := hide (fun (i : Nat) (r : Rl) (hx : (getX X nm).1[i]? = some r) => rels_take X nm (getX X nm).1 hx)
    have HT2 := hide (fun (v : Int) (l : List Nd) (k : Nat) (q : Nd) (hx : l[k]? = some q) => needed_take X nm v l hx)
    have HL2 := hide (fun (v : Int) (l : List Nd) (k : Nat) => needed_len X nm v (l.take k))
    have HL1 := hide (fun (i : Nat) => rels_len X nm ((getX X nm).1.take i) (fun r hr => h40 r (List.mem_of_mem_take hr)))
    have H40 := hide h40
    generalize (getX X nm) = K at *
    obtain ⟨L, kb⟩ := K
    simp only [] at HG HT1 HL1 H40 hlenL
    have hb0s := hb0.size
    have hbx0 := Blk.new w 33 #[.slice A n c]
    clear eP hr hfine h40
    go_enter Tryz.func20, Tryz.ntmps20
    go_upto_region 6 with (first
      | (go_at_call 13
         refine (HRl.out _ hb0).mono ?_
         rintro e w1 ⟨A1, n1, c1, rfl, h1, hb1x⟩
         have hb1 := hb0.trans (hb1x.mono hb0s)
         have hbx1 := hbx0.below hb1x hbx0.lt))
    obtain ⟨W3, hW3⟩ : ∃ W, W = (w1.alloc (.cells #[.slice A1 n1 c1] 35)).alloc (.cells #[.int .i64 2, .string nm, .int .i64 0, .string ⟨#[]⟩, .int .i64 0, .int .i64 0] 93) := ⟨_, rfl⟩
    obtain ⟨g8, hg8⟩ : ∃ g, g = w1.heap.size := ⟨_, rfl⟩
    have hb1s := hb1.size
    have hA1 := alloc_b (w := w1) (.cells #[.slice A1 n1 c1] 35)
    have hA2 := alloc_b (w := w1.alloc (.cells #[.slice A1 n1 c1] 35)) (.cells #[.int .i64 2, .string nm, .int .i64 0, .string ⟨#[]⟩, .int .i64 0, .int .i64 0] 93)
    have hF3 : Fcs W3 w.heap.size (.slice (some ⟨g8, 0, none⟩) 1 1) 1 [.slice A1 n1 c1] [c0] := by
      rw [hW3, hg8]
      exact Fcs.below ⟨own_oneF w1 A1 n1 c1 _ hb1s, AllF.one (h1.on hA1)⟩ hA2
    have hS3 : W3.ownsRow w.heap.size 93 6 (.slice (some ⟨g8 + 1, 0, none⟩) 1 1) 1 (sps [releasedStep nm]) := by
      have := own_oneS (w1.alloc (.cells #[.slice A1 n1 c1] 35)) (releasedStep nm) w.heap.size (by rw [World.size_alloc]; omega)
      rw [World.size_alloc] at this
      rw [hW3, hg8]
      exact this
    have hb13 : Below w1.heap.size w1 W3 := by rw [hW3]; exact hA1.trans (hA2.mono (by rw [World.size_alloc]; omega))
    have hb3 : Below w.heap.size w W3 := hb1.trans (hb13.mono hb1s)
    have hbx3 := hbx1.below hb13 hbx1.lt
    have hb3s := hb3.size
    have HG3 := hide (HG.out W3 hb3)
    have q3 := (hbx3.cell 0).trans (show (#[Value.slice A n c] : Array Value)[0]? = some (.slice A n c) from rfl)
    have h3 := h.below hb3
    try rw [← hg8]
    try rw [← hW3]
    clear hW3 hg8 hA1 hA2 hb13 hbx1 hbx0 hb1 hb0 hb1x h1 HRl HG h
    go_upto_region 7 with (first
      | (go_at_call 38
         refine HG3.out.mono ?_
         rintro e w4 ⟨A2, n2, c2, B2, r2, rfl, hR4, hb4x⟩))
    have hF4 := hF3.below hb4x
    have hS4 := own_below hS3 hb4x
    have hb4 := hb3.trans (hb4x.mono hb3s)
    have hbx4 := hbx3.below hb4x hbx3.lt
    have h4 := h3.below hb4x
    obtain ⟨W5, hW5⟩ : ∃ W, W = w4.alloc (.cells #[.string nm, .slice A2 n2 c2] 75) := ⟨_, rfl⟩
    obtain ⟨gm, hgm⟩ : ∃ g, g = w4.heap.size := ⟨_, rfl⟩
    have hA5 : Below w4.heap.size w4 W5 := by rw [hW5]; exact alloc_b _
    have hb4s := hb4.size
    have hF5 := hF4.below hA5
    have hS5 := own_below hS4 hA5
    have hb5 : Below w.heap.size w W5 := hb4.trans (hA5.mono hb4s)
    have hR5 : AllR W5 X nm A n c w.heap.size gm A2 n2 c2 B2 r2 L := ⟨hbx4.below hA5 hbx4.lt, by rw [hW5, hgm]; exact Blk.new _ _ _, h4.below hA5, hR4.below hA5⟩
    have hn2 : n2 ≤ 30 := by
      have := (rls_on hR4).len
      omega
    have Hn2 : Hid (L.length = n2) := hide (by
      exact (rls_on hR4).len)
    try rw [← hgm]
    try rw [← hW5]
    clear hW5 hgm hA5 hF4 hS4 hF3 hS3 hbx4 hbx3 hb4 hb4x h4 h3 hR4 HG3 q3 hb3
    go_wp2
    go_loopw [8, 9, 12] (fun u s v wr => ∃ (i m : Nat) (vs : List Value), i ≤ n2 ∧ v = .int .i64 (i : Int) ∧ m ≤ 1 + 40 * i ∧ Fcs wr w.heap.size u m vs (((c0, releasedStep nm) :: relsP X nm (L.take i)).map Prod.fst) ∧ wr.ownsRow w.heap.size 93 6 s m (sps (((c0, releasedStep nm) :: relsP X nm (L.take i)).map Prod.snd)) ∧ AllR wr X nm A n c w.heap.size gm A2 n2 c2 B2 r2 L ∧ Below w.heap.size w wr) (fun _ _ v _ => n2 - (RowKit.intOf v).toNat)
    case atStart => exact ⟨0, 1, _, by omega, rfl, by omega, hF5, hS5, hR5, hb5⟩
    case round =>
      clear hF5 hS5 hR5 hb5
      obtain ⟨i, m, vs, hi, rfl, hm, hF, hS, hR, hb⟩ := hrel
      have hbs := hb.size
      obtain ⟨Af, cf, rfl, _, hFt⟩ := hF.told
      obtain ⟨As, cs, rfl, _, hSt⟩ := own_steps hS
      have km := (hR.bm.cell 1).trans (show (#[Value.string nm, .slice A2 n2 c2] : Array Value)[1]? = some (.slice A2 n2 c2) from rfl)
      by_cases hlt : i < n2
      · obtain ⟨ad, r, A', n', c', e2, hbl, hx, hrs, hs, p1, p2⟩ := rls_at hR.rl hlt
        subst e2
        have hi1 : (0 : Int) ≤ (i : Int) := by omega
        have hi2 : (i : Int) < (n2 : Int) := by omega
        have hE := HT1.out i r hx
        have hr40 := H40.out r (List.mem_of_getElem? hx)
        have hsl := hs.len
        have hn' : n' ≤ 40 := by omega
        have Hx := hide hx
        obtain ⟨rv, rl⟩ := r
        simp only [] at p1 p2 hs hE hr40 hsl hrs
        have Hrs := hide hrs
        have HEE := hide hE
        have Hsl := hide hsl
        generalize relsP X nm (L.take i) = P0 at *
        obtain ⟨V, hV⟩ : ∃ V, V = wr := ⟨_, rfl⟩
        subst hV
        clear hx hrs hE hFt hSt hs hsl
        go_wp2
        go_loopw [8, 9, 14] (fun u s v wr => ∃ (k m : Nat) (vs : List Value), k ≤ n' ∧ v = .int .i64 (k : Int) ∧ m ≤ 1 + 40 * i + k ∧ Fcs wr w.heap.size u m vs ((((c0, releasedStep nm) :: P0) ++ neededP X nm rv (rl.take k)).map Prod.fst) ∧ wr.ownsRow w.heap.size 93 6 s m (sps ((((c0, releasedStep nm) :: P0) ++ neededP X nm rv (rl.take k)).map Prod.snd)) ∧ AllR wr X nm A n c w.heap.size gm (some ad) n2 c2 B2 r2 L ∧ Below w.heap.size w wr) (fun _ _ v _ => n' - (RowKit.intOf v).toNat)
        case atStart => exact ⟨0, m, vs, by omega, rfl, by omega, by rw [show neededP X nm rv (rl.take 0) = [] from rfl, List.append_nil]; exact hF, by rw [show neededP X nm rv (rl.take 0) = [] from rfl, List.append_nil]; exact hS, hR, hb⟩
        case round =>
          clear hF hS hR p1 p2 km hb hbs
          obtain ⟨k, m, vs, hk, rfl, hm, hF, hS, hR, hb⟩ := hrel
          have hbs := hb.size
          obtain ⟨Af, cf, rfl, _, _⟩ := hF.told
          obtain ⟨As, cs, rfl, _, _⟩ := own_steps hS
          by_cases hkt : k < n'
          · obtain ⟨adx, rx, A'x, n'x, c'x, e3, hbl3, hx3, hrs3, hs3, p1, p2⟩ := rls_at hR.rl hlt
            injection e3 with e3
            subst e3
            have e4 : (rv, rl) = rx := Option.some.inj (Hx.out.symm.trans hx3)
            subst e4
            have e5 := Option.some.inj (Hrs.out.symm.trans hrs3)
            injection e5 with e6 e7
            injection e7 with e8 e9 e10
            subst e8 e9 e10
            clear e6
            obtain ⟨ad2, q, A4, n4, c4, e5, hbl4, hq, hs4, d1, d2⟩ := NdIn.at_ hs3 hkt
            subst e5
            have hk1 : (0 : Int) ≤ (k : Int) := by omega
            have hk2 : (k : Int) < (n' : Int) := by omega
            have hE := HT2.out rv rl k q hq
            have HNq := hide (fun (wx : World) (hx : InK wx A n X) => HNd.out wx hx rv q.1)
            have Hq := hide hq
            obtain ⟨qn, qs⟩ := q
            simp only [] at d1 d2 hE HNq p1
            have HE := hide hE
            have q1 := cell_reg_ ((hR.bx.cell 0).trans (show (#[Value.slice A n c] : Array Value)[0]? = some (.slice A n c) from rfl)) hR.bx.lt
            have q2 := cell_reg_ ((hR.bm.cell 1).trans (show (#[Value.string nm, .slice (some ad) n2 c2] : Array Value)[1]? = some (.slice (some ad) n2 c2) from rfl)) hR.bm.lt
            have q3 := cell_in p1 (by rw [block_of_add]; omega)
            have q4 := cell_in d1 (by rw [block_of_add]; omega)
            have hik := hide (fun (wx : World) (hb : Below wr.heap.size wr wx) => hR.ik.below hb)
            clear hE hq hs3 hs4 hrs3 hx3 p1 p2 d1 d2
            generalize neededC X nm rv qn = R at *
            generalize neededP X nm rv (rl.take k) = P2 at *
            go_upto_region 14 with fail
            refine wp_region_grow [(69, mkO R)] [69]
              (by kernel_rfl) (by kernel_rfl) rfl (by kernel_rfl) (by kernel_rfl) ⟨mkO_stable _, trivial⟩ ?_
            repeat (first
              | (refine lex_skip rfl ?_; simp only [Act.put, List.setIfInBounds_toArray, List.set_cons_zero, List.set_cons_succ])
              | (refine lex_quiet rfl rfl rfl (fun K hK => ?_); unfold Reg; go_big_quiet_op; refine hK _ ?_; clear hK K))
            refine lex_rel rfl rfl (fun w' hb9 hK => ?_) (fun v w' hb9 hv => ?_)
            · clear hK
              unfold grows
              go_simp
              go_at_call 15
              refine (HNq.out _ (hik.out _ hb9)).mono ?_
              rintro e w8 ⟨A8, n8, c8, rfl, h8, hb8x⟩
              exact ⟨_, rfl, hb8x, A8, n8, c8, rfl, h8⟩
            obtain ⟨A8, n8, c8, rfl, hv8⟩ := hv
            simp only [Act.put, List.setIfInBounds_toArray, List.set_cons_zero, List.set_cons_succ]
            repeat (first
              | (refine lex_skip rfl ?_; simp only [Act.put, List.setIfInBounds_toArray, List.set_cons_zero, List.set_cons_succ])
              | (refine lex_quiet rfl rfl rfl (fun K hK => ?_); unfold Reg; go_big_quiet_op; refine hK _ ?_; clear hK K))
            refine lex_nil (fun w8 hC9 hall => ?_)
            have hb8 := reg_iff.1 hC9
            obtain ⟨A9, n9, c9, e9, h8⟩ := hall 13 _ 69 _ rfl rfl rfl (tuple_d _ _)
            have e9' : Value.tuple #[.slice A8 n8 c8, .bool R.isSome] = .tuple #[.slice A9 n9 c9, .bool R.isSome] := e9
            have e10 := tuple_inj e9'
            obtain ⟨e11, e12, e13⟩ := e10
            rw [← e11, ← e12] at h8
            clear hall hC9 e9 e9' e11 e12 e13 hv8 q1 q2 q3 q4 hik
            have hb8w : Below w.heap.size w w8 := hb.trans (hb8.mono hbs)
            have hF8 := hF.below hb8
            have hS8 := own_below hS hb8
            have hR8 := hR.below hb8
            have hb8s := hb8w.size
            clear hF hS hR HNq
            cases R with
            | none =>
              have hE0 : neededP X nm rv (rl.take (k + 1)) = P2 := by have := HE.out; simpa using this
              rw [← hE0] at hF8 hS8
              clear HE hE0
              go_wp2
              go_roundw
              case rel => exact ⟨k + 1, m, vs, by omega, by go_num, by omega, hF8, hS8, hR8, hb8w⟩
              case measure => simp [RowKit.intOf]; omega
            | some c9 =>
              have hE0 : neededP X nm rv (rl.take (k + 1)) = P2 ++ [(c9, neededStep nm rv qn)] := HE.out
              have hE1 := hide (show (((c0, releasedStep nm) :: P0) ++ neededP X nm rv (rl.take (k + 1))).map Prod.fst = (((c0, releasedStep nm) :: P0) ++ P2).map Prod.fst ++ [c9] by rw [hE0, ← List.append_assoc, List.map_append]; rfl)
              have hE2 := hide (show sps ((((c0, releasedStep nm) :: P0) ++ neededP X nm rv (rl.take (k + 1))).map Prod.snd) = sps ((((c0, releasedStep nm) :: P0) ++ P2).map Prod.snd) ++ sps [neededStep nm rv qn] by rw [hE0, ← List.append_assoc, List.map_append, sps_append]; rfl)
              generalize (((c0, releasedStep nm) :: P0) ++ P2).map Prod.fst = L1 at *
              generalize (((c0, releasedStep nm) :: P0) ++ P2).map Prod.snd = L2 at *
              simp only [Option.getD_some] at h8
              clear HE hE0
              go_upto_region 17 with (first
                | (at_builtin
                   refine wpList_append_any _ rfl (.tmp 73) (.tmp 75) _ rfl w.heap.size 35 i0 _ 1 24 Tryz.underlying43 hi0 hz0 hz1 hz2 rfl (by omega) _ m vs rfl
                     (own_below hF8.1 (alloc_b _)) _ _ 1 _ _ rfl (Reads.new1 _ _ _) (one_slice _ _ _) (by unfold maxLen; omega) (by omega) (by simp; omega) ?_
                   intro v3 w3 hown3 hg3 hat3
                   have hA3 := (alloc_b (w := w8) (.cells #[.slice A8 n8 c8] 35))
                   have hO3 := own_below hF8.1 hA3
                   have hF3 := (hF8.below hA3).cat (AllF.one (k := c8) (h8.on hA3)) hown3 hg3
                   have hS3 := own_far (own_below hS8 hA3) (farT_own hO3 (by decide)) hg3
                   have hR3 := (hR8.below hA3).far (.inl rfl) hO3 hg3
                   have hr3 : Below w.heap.size w8 w3 := (hA3.mono hb8s).grown hg3 (by simp; omega) (fun k hk => (hF8.1.lt k hk).1)
                   have hb3 : Below w.heap.size w w3 := hb8w.trans hr3))
              rw [← hE1.out] at hF3
              obtain ⟨A3, c3', rfl, _, _⟩ := hF3.told
              have hb3s := hb3.size
              obtain ⟨adx, rx, A'x, n'x, c'x, e3, hbl3', hx3, hrs3, hs3, p1, p2⟩ := rls_at hR3.rl hlt
              injection e3 with e3
              subst e3
              have e4 : (rv, rl) = rx := Option.some.inj (Hx.out.symm.trans hx3)
              subst e4
              have e5 := Option.some.inj (Hrs.out.symm.trans hrs3)
              injection e5 with e6 e7
              injection e7 with e8 e9 e10
              subst e9 e10
              clear e6
              obtain ⟨ad3, q, A4, n4, c4, e5, hbl4', hq, hs4, d1, d2⟩ := NdIn.at_ hs3 hkt
              rw [← e8] at e5
              injection e5 with e5
              subst e5
              have eq : q.1 = qn := by
                have h7 := Hq.out
                rw [hq] at h7
                injection h7 with h7
                rw [h7]
              simp only [] at p1
              have d1' : w3.cell? (ad2.add (k * 2)) = some (.string qn) := by rw [← eq]; exact d1
              have k1 := (hR3.bm.cell 1).trans (show (#[Value.string nm, .slice (some ad) n2 c2] : Array Value)[1]? = some (.slice (some ad) n2 c2) from rfl)
              have hbl5 : ad.block < w3.heap.size := hbl3'
              have hbl6 : ad2.block < w3.heap.size := hbl4'
              have q2 := cell_reg_ k1 hR3.bm.lt
              have q3 := cell_in p1 (by rw [block_of_add]; omega)
              have q4 := cell_in d1' (by rw [block_of_add]; omega)
              clear hq hs3 hs4 hx3 hrs3 d1 d2 eq hF8 hS8 hR8 hown3 hg3 hO3 hr3 h8 p1 p2 d1' k1 e8
              refine wp_region_grow_w [(91, rowS (neededStep nm rv qn))] [91] 15 (putsS w.heap.size m L2 (.slice As m cs) (neededStep nm rv qn)) _
                (by kernel_rfl) (by kernel_rfl) rfl (by kernel_rfl) (by kernel_rfl) (by kernel_rfl) rfl rfl (by kernel_rfl) (by kernel_rfl) ⟨rowS_stable _, trivial⟩ ?_
              repeat (first
                | (refine lexK_skip (by decide) rfl ?_; simp only [Act.put, List.setIfInBounds_toArray, List.set_cons_zero, List.set_cons_succ])
                | (refine lexK_quiet (by decide) rfl rfl rfl (fun K hK => ?_); unfold Reg; go_big_quiet_op; refine hK _ ?_; clear hK K))
              refine lexK_rel (by decide) rfl rfl (fun w' hb9 hK => ?_) (fun v w' hb9 hv => ?_)
              · unfold grows
                go_simp
                exact ⟨alloc_b _, some ⟨w'.heap.size, 0, none⟩, 1, rfl, (reads_step w' (neededStep nm rv qn) _ _ rfl).more (by simp)⟩
              obtain ⟨A7, c7, rfl, hr7⟩ := hv
              simp only [Act.put, List.setIfInBounds_toArray, List.set_cons_zero, List.set_cons_succ]
              refine lexK_wr rfl rfl (fun w' hb9 hK => ?_) (fun v w' w'' hb9 hv => ?_)
              · obtain ⟨A4, c4, e4, hr4⟩ := hK.at_ 91 rfl (slice_d _ _ _)
                injection e4 with e5 e6 e7
                rw [← e5] at hr4
                clear e5 e6 e7 hK
                have hS9 := own_below hS3 hb9
                refine grows_append (.tmp 77) (.tmp 91) _ rfl w.heap.size 93 j0 _ 6 64 Tryz.underlying44 hj0 jz0 jz1 jz2 rfl (by omega) _ m (sps L2) rfl hS9 _ _ 1 _ _ rfl hr4 (sps_one _) (by unfold maxLen; omega) (by omega) (by have := hb9.size; omega) ?_
                intro v' w5 hown hg _
                exact ⟨hown, hg⟩
              obtain ⟨Av, cv, e8, _, _⟩ := own_steps (l := L2 ++ [neededStep nm rv qn]) (by rw [sps_append]; exact hv.1)
              subst e8
              simp only [Act.put, List.setIfInBounds_toArray, List.set_cons_zero, List.set_cons_succ]
              repeat (refine lexK_late (by decide) rfl rfl (fun K hK => ?_); go_big_quiet_op; refine hK _ ?_; clear hK K)
              refine lexK_nil (fun w4 w9 v9 hC9 hall hSS hd => ?_)
              have hb9 := reg_iff.1 hC9
              have hv9 := (hd 92 rfl).resolve_right (slice_d _ _ _)
              have hv9' : Value.slice Av (m + 1) cv = v9 := hv9
              subst hv9'
              obtain ⟨hown4, hg4⟩ := hSS
              have hS9 := own_below hS3 hb9
              have hF4 := (hF3.below hb9).far (farT_own hS9 (by decide)) (farT_own hS9 (by decide)) (farT_own hS9 (by decide)) hg4
              have hR4 := (hR3.below hb9).far (.inr rfl) hS9 hg4
              have hb4 : Below w.heap.size w w4 := (hb3.trans (hb9.mono hb3s)).grown hg4 (by have := hb9.size; omega) (fun k hk => (hS9.lt k hk).1)
              clear hall hd hC9 hv9 hv q2 q3 q4 hr7
              rw [← hE2.out] at hown4
              go_wp2
              go_roundw
              case rel => exact ⟨k + 1, m + 1, _, by omega, by go_num, by omega, hF4, hown4, hR4, hb4⟩
              case measure => simp [RowKit.intOf]; omega
          · have hk2 : k = n' := by omega
            rw [hk2, List.take_of_length_le (by rw [Hsl.out]; exact Nat.le_refl _)] at hF hS
            rw [List.cons_append, ← HEE.out] at hF hS
            clear HT1 HT2 HL1 HL2 H40 HNd Hx Hrs HEE
            go_wp2
            go_roundw
            case rel => exact ⟨i + 1, m, vs, by omega, by go_num, by omega, hF, hS, hR, hb⟩
            case measure => simp [RowKit.intOf]; omega
      · have hi2 : i = n2 := by omega
        rw [hi2, List.take_of_length_le (by rw [Hn2.out]; exact Nat.le_refl _)] at hFt hSt
        clear hF hS hR HT1 HT2 HL1 HL2 H40 HNd
        go_wp2
        go_ret2
        first | exact ⟨Af, _, cf, As, _, cs, rfl, hFt, hSt, hb⟩ | (subst hi2; exact ⟨Af, _, cf, As, _, cs, rfl, hFt, hSt, hb⟩)
end Go.Proofs.YtpicnbidbddggaaGreat.Fact
