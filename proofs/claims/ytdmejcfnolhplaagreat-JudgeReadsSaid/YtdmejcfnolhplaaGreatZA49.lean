/-
  Some texts of this claim, one behind the other: FitMath, FitSets, FactMath, JudgeMath, FactTwin, FactLen, FactRef1, JudgeLen, JudgeRef, FactShort. What each proves, and its condition, stands at its head.
-/
import Derived.Test.YtdmejcfnolhplaaGreatZA33
import Derived.Test.YtdmejcfnolhplaaGreatZA19
import Derived.Test.YtdmejcfnolhplaaGreatZA37
import Derived.Test.YtdmejcfnolhplaaGreatZA11
import Derived.Test.YtdmejcfnolhplaaGreatZA12
import Derived.Test.YtdmejcfnolhplaaGreatZA40
import Derived.Test.YtdmejcfnolhplaaGreatZA34
import Derived.Test.YtdmejcfnolhplaaGreatZA27
import Derived.Test.YtdmejcfnolhplaaGreatZA26
import Derived.Test.YtdmejcfnolhplaaGreatZA39
import Derived.Test.YtdmejcfnolhplaaGreatZA47
import Derived.Deep.RegionHeld3
/-
  Plain mathematics of solutions: what is needed by picks; what is wrong with them; a solution stays one as more is known, its names are just those that are needed, without one of its picks it is none. No program.
-/
namespace Go.Proofs.YtdmejcfnolhplaaGreat.Fit
open Go.RowKit Go.Lib Go.Proofs.YtdmejcfnolhplaaGreat.Span Go.Proofs.YtdmejcfnolhplaaGreat.Need Go.Proofs.YtdmejcfnolhplaaGreat.Mani Go.Proofs.YtdmejcfnolhplaaGreat.Wire Go.Proofs.YtdmejcfnolhplaaGreat.Depot Go.Proofs.YtdmejcfnolhplaaGreat.Index Go.Proofs.YtdmejcfnolhplaaGreat.Reach Go.Proofs.YtdmejcfnolhplaaGreat.Pick
set_option linter.unusedVariables false
def relX (X : List Kn) (a : ByteArray) (v : Int) : Option Rl := getR (getX X a).1 v
def needsX (X : List Kn) (a : ByteArray) (v : Int) : List Nd := ((relX X a v).getD (0, [])).2
def asksF (X : List Kn) (l : List Pk) (a : ByteArray) : List ByteArray := match getP l a with
  | some v => namesS (needsX X a v)
  | none => []
inductive MayF (X : List Kn) (root : List Nd) (l : List Pk) : ByteArray → Prop
  | root {a : ByteArray} (h : a ∈ namesS root) : MayF X root l a
  | ask {a b : ByteArray} (h : MayF X root l a) (k : b ∈ asksF X l a) : MayF X root l b
section
variable {X : List Kn} {root : List Nd} {l : List Pk}
end
end Go.Proofs.YtdmejcfnolhplaaGreat.Fit
/-
  What is known has sets for what it needs. No program.
-/
namespace Go.Proofs.YtdmejcfnolhplaaGreat.Fit
open Go.RowKit Go.Lib Go.Proofs.YtdmejcfnolhplaaGreat.Span Go.Proofs.YtdmejcfnolhplaaGreat.Need Go.Proofs.YtdmejcfnolhplaaGreat.Mani Go.Proofs.YtdmejcfnolhplaaGreat.Wire Go.Proofs.YtdmejcfnolhplaaGreat.Depot Go.Proofs.YtdmejcfnolhplaaGreat.Index Go.Proofs.YtdmejcfnolhplaaGreat.Pick
set_option linter.unusedVariables false
def SetR (l : List Rl) : Prop := ∀ r ∈ l, okS r.2 = true
def SetX (X : List Kn) : Prop := ∀ q ∈ X, SetR q.2.1
theorem relE_sets (nm : ByteArray) (b : List UInt8) : SetR (relE nm b) := by
  unfold relE
  split
  · rename_i h
    unfold goodE at h
    simp only [Bool.and_eq_true, decide_eq_true_eq] at h
    have hok : okM (readB b).1 (readB b).2 = true := by
      unfold readB
      rw [if_pos h.1]
      have h0 := h.1
      unfold errB at h0
      split at h0
      · exact absurd h0 (by simp)
      · split at h0
        · rename_i e; exact absurd h0 e
        · split at h0
          · rename_i e; exact e
          · exact absurd h0 (by simp)
    simp only [okM, Bool.and_eq_true] at hok
    exact fun r hr => (okR_all hok.1 r hr).2.2
  · intro r hr; cases hr
theorem SetX.nil : SetX [] := fun q hq => by cases hq
theorem SetX.put {l : List Kn} (h : SetX l) (nm : ByteArray) (b : List UInt8) : SetX (putX l nm b) := by
  unfold putX
  split
  · intro q hq
    rcases (insX_mem _ _).1 hq with rfl | hq
    · exact relE_sets nm b
    · exact h q hq
  · exact h
theorem SetX.puts {l : List Kn} (h : SetX l) (es : List En) : SetX (putsX l es) := by
  induction es generalizing l with
  | nil => exact h
  | cons e t ih => exact ih (h.put e.1 e.2)
end Go.Proofs.YtdmejcfnolhplaaGreat.Fit
/-
  Plain mathematics of facts: what root, and a known package, let be said of picks; of a solution no fact holds; picks of which none holds lack nothing. No program.
-/
namespace Go.Proofs.YtdmejcfnolhplaaGreat.Fact
open Go.RowKit Go.Lib Go.Proofs.YtdmejcfnolhplaaGreat.Label Go.Proofs.YtdmejcfnolhplaaGreat.Span Go.Proofs.YtdmejcfnolhplaaGreat.Need Go.Proofs.YtdmejcfnolhplaaGreat.Mani Go.Proofs.YtdmejcfnolhplaaGreat.Wire Go.Proofs.YtdmejcfnolhplaaGreat.Depot Go.Proofs.YtdmejcfnolhplaaGreat.Index Go.Proofs.YtdmejcfnolhplaaGreat.Reach Go.Proofs.YtdmejcfnolhplaaGreat.Pick Go.Proofs.YtdmejcfnolhplaaGreat.Fit Go.Proofs.YtdmejcfnolhplaaGreat.Term Go.Proofs.YtdmejcfnolhplaaGreat.Clash
set_option linter.unusedVariables false
noncomputable def unmetT (n : ByteArray) (s : List S) : Tm := notT ⟨n, s, false⟩
def atS (v : Int) : List S := [(v, v + 1)]
theorem has_one {v p : Int} : has (atS v) p = decide (p = v) := by
  unfold has atS
  rw [Bool.eq_iff_iff]
  simp
  omega
noncomputable def askedC (root : List Nd) (n : ByteArray) : Option (List Tm) := match findS root n with
  | some s => makeC [unmetT n s]
  | none => none
noncomputable def releasedC (X : List Kn) (n : ByteArray) : Option (List Tm) := match atX X n with
  | some k => makeC [⟨n, notS (versS k.1), false⟩]
  | none => none
noncomputable def neededC (X : List Kn) (n : ByteArray) (v : Int) (b : ByteArray) : Option (List Tm) := match relX X n v with
  | some r => match findS r.2 b with
    | some s => makeC [⟨n, atS v, false⟩, unmetT b s]
    | none => none
  | none => none
section
variable {X : List Kn} {root : List Nd} {l : List Pk}
end
end Go.Proofs.YtdmejcfnolhplaaGreat.Fact
/-
  Plain mathematics of judging: the clashes of steps; if one holds of picks, that of a fact does; if the last one is always so there is no solution; more known, the clashes are the same. No program.
-/
namespace Go.Proofs.YtdmejcfnolhplaaGreat.Judge
open Go.RowKit Go.Lib Go.Proofs.YtdmejcfnolhplaaGreat.Label Go.Proofs.YtdmejcfnolhplaaGreat.Span Go.Proofs.YtdmejcfnolhplaaGreat.Need Go.Proofs.YtdmejcfnolhplaaGreat.Mani Go.Proofs.YtdmejcfnolhplaaGreat.Wire Go.Proofs.YtdmejcfnolhplaaGreat.Depot Go.Proofs.YtdmejcfnolhplaaGreat.Index Go.Proofs.YtdmejcfnolhplaaGreat.Reach Go.Proofs.YtdmejcfnolhplaaGreat.Pick Go.Proofs.YtdmejcfnolhplaaGreat.Fit Go.Proofs.YtdmejcfnolhplaaGreat.Term Go.Proofs.YtdmejcfnolhplaaGreat.Clash Go.Proofs.YtdmejcfnolhplaaGreat.Fact Go.Proofs.YtdmejcfnolhplaaGreat.Proof
set_option linter.unusedVariables false
noncomputable def oneC (X : List Kn) (root : List Nd) (s : Proof.Sp) (o : List (List Tm)) : Option (List Tm) :=
  if s.kind = 1 then askedC root s.name else if s.kind = 2 then releasedC X s.name else if s.kind = 3 then neededC X s.name s.ver s.dest else joinC ((o[s.a.toNat]?).getD []) ((o[s.b.toNat]?).getD []) s.name
noncomputable def clashC (X : List Kn) (root : List Nd) : List Proof.Sp → List (List Tm) → List (List Tm)
  | [], o => o
  | s :: r, o => match oneC X root s o with
    | some c => clashC X root r (o ++ [c])
    | none => o
section
variable {X : List Kn} {root : List Nd}
theorem clash_grows : ∀ (l : List Proof.Sp) (o : List (List Tm)), o <+: clashC X root l o ∧ (clashC X root l o).length ≤ o.length + l.length
  | [], o => ⟨List.prefix_refl _, Nat.le_refl _⟩
  | s :: r, o => by
    rw [clashC]
    cases e : oneC X root s o with
    | none => exact ⟨List.prefix_refl _, by simp⟩
    | some c =>
      obtain ⟨h1, h2⟩ := clash_grows r (o ++ [c])
      refine ⟨List.IsPrefix.trans (List.prefix_append o [c]) h1, ?_⟩
      simp only [List.length_append, List.length_cons, List.length_nil] at h2 ⊢
      omega
end
end Go.Proofs.YtdmejcfnolhplaaGreat.Judge
/-
  Plain mathematics of facts, as loops reckon them: facts with their steps, two by two; how many there are. No program.
-/
namespace Go.Proofs.YtdmejcfnolhplaaGreat.Fact
open Go.RowKit Go.Lib Go.Proofs.YtdmejcfnolhplaaGreat.Label Go.Proofs.YtdmejcfnolhplaaGreat.Span Go.Proofs.YtdmejcfnolhplaaGreat.Need Go.Proofs.YtdmejcfnolhplaaGreat.Mani Go.Proofs.YtdmejcfnolhplaaGreat.Wire Go.Proofs.YtdmejcfnolhplaaGreat.Depot Go.Proofs.YtdmejcfnolhplaaGreat.Index Go.Proofs.YtdmejcfnolhplaaGreat.Reach Go.Proofs.YtdmejcfnolhplaaGreat.Pick Go.Proofs.YtdmejcfnolhplaaGreat.Fit Go.Proofs.YtdmejcfnolhplaaGreat.Term Go.Proofs.YtdmejcfnolhplaaGreat.Clash
set_option linter.unusedVariables false
abbrev Fa := List Tm × Proof.Sp
theorem at_one {v : Int} (h0 : 0 ≤ v) (h1 : v < 1000000000) : oneS v = atS v := oneS_some h0 h1
theorem one_ok {n : ByteArray} {s : List S} {z : Bool} (hn : fitL (runes n 0) = true) (hs : isSet (-1) s = true) : okT ⟨n, s, z⟩ = true := by
  unfold okT
  simp [hn, hs]
end Go.Proofs.YtdmejcfnolhplaaGreat.Fact
/-
  How many spans a Not and the versions of releases have; what is known of an index that was put together: names that may be, versions in range. No program.
-/
namespace Go.Proofs.YtdmejcfnolhplaaGreat.Fact
open Go.RowKit Go.Lib Go.Proofs.YtdmejcfnolhplaaGreat.Label Go.Proofs.YtdmejcfnolhplaaGreat.Span Go.Proofs.YtdmejcfnolhplaaGreat.Need Go.Proofs.YtdmejcfnolhplaaGreat.Mani Go.Proofs.YtdmejcfnolhplaaGreat.Wire Go.Proofs.YtdmejcfnolhplaaGreat.Depot Go.Proofs.YtdmejcfnolhplaaGreat.Index Go.Proofs.YtdmejcfnolhplaaGreat.Reach Go.Proofs.YtdmejcfnolhplaaGreat.Pick Go.Proofs.YtdmejcfnolhplaaGreat.Fit Go.Proofs.YtdmejcfnolhplaaGreat.Term Go.Proofs.YtdmejcfnolhplaaGreat.Clash
set_option linter.unusedVariables false
theorem end_out {l : List S} {p : Int} (h1 : has l (p - 1) = true) (h2 : has l p = false) : p ∈ l.map Prod.snd := by
  obtain ⟨x, hx, g1, g2⟩ := (has_iff _ _).1 h1
  have h3 : ¬ p < x.2 := fun g => by
    have : has l p = true := (has_iff _ _).2 ⟨x, hx, by omega, g⟩
    rw [h2] at this
    cases this
  exact List.mem_map.2 ⟨x, hx, by omega⟩
theorem not_len {a : List S} (ha : isSet (-1) a = true) : (notS a).length ≤ a.length + 1 := by
  have h := sorted_len ((notS a).map Prod.fst) (0 :: a.map Prod.snd) (starts_rise (nf_set _)) (fun x hx => by
    obtain ⟨s, hs, rfl⟩ := List.mem_map.1 hx
    obtain ⟨h1, h2⟩ := nf_before hs
    have h1' : (!has a s.1) = true := h1
    rcases h2 with h0 | h2
    · rw [h0]; exact List.mem_cons_self
    · have h2' : (!has a (s.1 - 1)) = false := h2
      refine List.mem_cons_of_mem _ (end_out ?_ ?_)
      · simpa using h2'
      · simpa using h1')
  simpa using h
theorem vers_len (l : List Rl) : (versS l).length ≤ l.length := by
  have h := sorted_len ((versS l).map Prod.fst) (l.map Prod.fst) (starts_rise (nf_set _)) (fun x hx => by
    obtain ⟨s, hs, rfl⟩ := List.mem_map.1 hx
    obtain ⟨h1, _⟩ := nf_before hs
    obtain ⟨q, hq, e⟩ := inVers_iff.1 h1
    exact List.mem_map.2 ⟨q, hq, e⟩)
  simpa using h
theorem vers_set (l : List Rl) : isSet (-1) (versS l) = true := nf_set _
theorem unmet_ok {n : ByteArray} (s : List S) (hn : fitL (runes n 0) = true) : okT (unmetT n s) = true := one_ok hn (nf_set _)
theorem unmet_len {n : ByteArray} {s : List S} (hs : isSet (-1) s = true) (h6 : s.length ≤ 6) : (unmetT n s).set.length ≤ 7 := by
  have := not_len hs
  show (notS s).length ≤ 7
  omega
def VerK (X : List Kn) : Prop := ∀ q ∈ X, ∀ r ∈ q.2.1, 0 ≤ r.1 ∧ r.1 < 1000000000
def FitX (X : List Kn) : Prop := ∀ q ∈ X, fitL (runes q.1 0) = true
def RisX (X : List Kn) : Prop := ∀ q ∈ X, RisesR q.2.1
structure OkX (X : List Kn) : Prop where
  fine : FineX X
  sets : SetX X
  vers : VerK X
  fits : FitX X
  few : X.length ≤ 100
  rise : RisX X
theorem relE_vers (nm : ByteArray) (b : List UInt8) : ∀ r ∈ relE nm b, 0 ≤ r.1 ∧ r.1 < 1000000000 := by
  unfold relE
  split
  · rename_i h
    unfold goodE at h
    simp only [Bool.and_eq_true, decide_eq_true_eq] at h
    have hok : okM (readB b).1 (readB b).2 = true := by
      unfold readB
      rw [if_pos h.1]
      have h0 := h.1
      unfold errB at h0
      split at h0
      · exact absurd h0 (by simp)
      · split at h0
        · rename_i e; exact absurd h0 e
        · split at h0
          · rename_i e; exact e
          · exact absurd h0 (by simp)
    simp only [okM, Bool.and_eq_true] at hok
    intro r hr
    have := okR_all hok.1 r hr
    exact ⟨by omega, this.2.1⟩
  · intro r hr; cases hr
theorem relE_rise (nm : ByteArray) (b : List UInt8) : RisesR (relE nm b) := by
  unfold relE
  split
  · rename_i h
    unfold goodE at h
    simp only [Bool.and_eq_true, decide_eq_true_eq] at h
    have hok : okM (readB b).1 (readB b).2 = true := by
      unfold readB
      rw [if_pos h.1]
      have h0 := h.1
      unfold errB at h0
      split at h0
      · exact absurd h0 (by simp)
      · split at h0
        · rename_i e; exact absurd h0 e
        · split at h0
          · rename_i e; exact e
          · exact absurd h0 (by simp)
    exact (okM_parts hok).2.1
  · exact List.Pairwise.nil
theorem RisX.nil : RisX [] := fun q hq => by cases hq
theorem RisX.put {l : List Kn} (h : RisX l) (nm : ByteArray) (b : List UInt8) : RisX (putX l nm b) := by
  unfold putX
  split
  · intro q hq
    rcases (insX_mem _ _).1 hq with rfl | hq
    · exact relE_rise nm b
    · exact h q hq
  · exact h
theorem RisX.puts {l : List Kn} (h : RisX l) (es : List En) : RisX (putsX l es) := by
  induction es generalizing l with
  | nil => exact h
  | cons e t ih => exact ih (h.put e.1 e.2)
theorem VerK.nil : VerK [] := fun q hq => by cases hq
theorem VerK.put {l : List Kn} (h : VerK l) (nm : ByteArray) (b : List UInt8) : VerK (putX l nm b) := by
  unfold putX
  split
  · intro q hq
    rcases (insX_mem _ _).1 hq with rfl | hq
    · exact relE_vers nm b
    · exact h q hq
  · exact h
theorem VerK.puts {l : List Kn} (h : VerK l) (es : List En) : VerK (putsX l es) := by
  induction es generalizing l with
  | nil => exact h
  | cons e t ih => exact ih (h.put e.1 e.2)
theorem FitX.nil : FitX [] := fun q hq => by cases hq
theorem FitX.put {l : List Kn} (h : FitX l) (nm : ByteArray) (b : List UInt8) : FitX (putX l nm b) := by
  unfold putX
  split
  · rename_i h0
    intro q hq
    rcases (insX_mem _ _).1 hq with rfl | hq
    · have := (errX_zero.1 h0).1
      unfold mayX at this
      simp only [Bool.and_eq_true] at this
      exact this.1
    · exact h q hq
  · exact h
theorem FitX.puts {l : List Kn} (h : FitX l) (es : List En) : FitX (putsX l es) := by
  induction es generalizing l with
  | nil => exact h
  | cons e t ih => exact ih (h.put e.1 e.2)
theorem known_fit {X : List Kn} (h : FitX X) {n : ByteArray} {k : Kv} (hk : atX X n = some k) : fitL (runes n 0) = true := h _ (atX_in hk)
theorem rel_known {X : List Kn} {n : ByteArray} {v : Int} {r : Rl} (h : relX X n v = some r) : ∃ k, atX X n = some k ∧ r ∈ k.1 ∧ r.1 = v := by
  unfold relX getX at h
  cases e : atX X n with
  | none => rw [e] at h; cases h
  | some k =>
    rw [e] at h
    exact ⟨k, rfl, (getR_mem h).1, (getR_mem h).2⟩
end Go.Proofs.YtdmejcfnolhplaaGreat.Fact
/-
  Contracts of the document's own Asked, Released and Needed of facts. Condition: needs that may be; an index that was put together.
-/
namespace Go.Proofs.YtdmejcfnolhplaaGreat.Fact
open Go Go.RowKit Go.Lib Go.Proofs.YtdmejcfnolhplaaGreat.Span Go.Proofs.YtdmejcfnolhplaaGreat.Need Go.Proofs.YtdmejcfnolhplaaGreat.Mani Go.Proofs.YtdmejcfnolhplaaGreat.Index Go.Proofs.YtdmejcfnolhplaaGreat.Grow Go.Proofs.YtdmejcfnolhplaaGreat.Term Go.Proofs.YtdmejcfnolhplaaGreat.Clash Go.Proofs.YtdmejcfnolhplaaGreat.Fit
open Go.Proofs.YtdmejcfnolhplaaGreat.Label (runes fitL)
set_option linter.unusedVariables false
theorem rls_on {w : World} {B n c : Nat} {A : Option Addr} {rs : List Vr} {l : List Rl} (h : Rls w B (.slice A n c) n rs l) : RlOn w A n l := by
  obtain ⟨A1, c1, e, _, hT⟩ := h.told
  injection e with e1 e2 e3
  rw [← e1] at hT
  exact hT
theorem one_tmR (w : World) (nm : ByteArray) (A : Option Addr) (n c : Nat) (z : Bool) {s : List S} (h : InS w 0 A n s) (g : Nat) (hg : g = w.heap.size) :
    TmR (w.alloc (.cells #[.string nm, .slice A n c, .bool z] 77)) (w.alloc (.cells #[.string nm, .slice A n c, .bool z] 77)).heap.size (some ⟨g, 0, none⟩) 1 [⟨nm, s, z⟩] := by
  subst hg
  have hT : TmsR (w.alloc (.cells #[.string nm, .slice A n c, .bool z] 77)) w.heap.size (.slice (some ⟨w.heap.size, 0, none⟩) 1 1) 1 [(nm, .slice A n c, z)] [⟨nm, s, z⟩] := ⟨own_one w nm A n c z _ (Nat.le_refl _), AllT.one (h.below (alloc_b _))⟩
  obtain ⟨A1, c1, e, _, hR⟩ := hT.told
  injection e with e1 e2 e3
  rw [← e1] at hR
  exact hR
theorem own_two (w : World) (nm : ByteArray) (A : Option Addr) (n c : Nat) (z : Bool) (nm' : ByteArray) (A' : Option Addr) (n' c' : Nat) (z' : Bool) (B : Nat) (hB : B ≤ w.heap.size) :
    (w.alloc (.cells #[.string nm, .slice A n c, .bool z, .string nm', .slice A' n' c', .bool z'] 77)).ownsRow B 77 3 (.slice (some ⟨w.heap.size, 0, none⟩) 2 2) 2 (tms [(nm, .slice A n c, z), (nm', .slice A' n' c', z')]) :=
  ⟨rfl, .inr ⟨w.heap.size, 2, _, rfl, hB, heap_alloc_new w _, Nat.le_refl _, by decide, rfl, rfl⟩⟩
theorem two_tmR (w : World) (nm : ByteArray) (A : Option Addr) (n c : Nat) (z : Bool) (nm' : ByteArray) (A' : Option Addr) (n' c' : Nat) (z' : Bool) {s s' : List S} (h : InS w 0 A n s) (h' : InS w 0 A' n' s') (g : Nat) (hg : g = w.heap.size) :
    TmR (w.alloc (.cells #[.string nm, .slice A n c, .bool z, .string nm', .slice A' n' c', .bool z'] 77)) (w.alloc (.cells #[.string nm, .slice A n c, .bool z, .string nm', .slice A' n' c', .bool z'] 77)).heap.size (some ⟨g, 0, none⟩) 2 [⟨nm, s, z⟩, ⟨nm', s', z'⟩] := by
  subst hg
  have hb := alloc_b (w := w) (.cells #[.string nm, .slice A n c, .bool z, .string nm', .slice A' n' c', .bool z'] 77)
  have hT : TmsR (w.alloc (.cells #[.string nm, .slice A n c, .bool z, .string nm', .slice A' n' c', .bool z'] 77)) w.heap.size (.slice (some ⟨w.heap.size, 0, none⟩) 2 2) 2 ([(nm, .slice A n c, z)] ++ [(nm', .slice A' n' c', z')]) ([⟨nm, s, z⟩] ++ [⟨nm', s', z'⟩]) := ⟨own_two w nm A n c z nm' A' n' c' z' _ (Nat.le_refl _), (AllT.one (h.below hb)).append (AllT.one (h'.below hb))⟩
  obtain ⟨A1, c1, e, _, hR⟩ := hT.told
  injection e with e1 e2 e3
  rw [← e1] at hR
  exact hR
set_option maxHeartbeats 4000000 in
set_option maxRecDepth 100000 in
theorem refUnmet_any (nm : ByteArray) (s : List S) (A : Option Addr) (n c : Nat) (w : World) (h : SpOn w A n s) (hn : n ≤ 10000) :
    Calls Tryz.prog 85 #[.string nm, .slice A n c] w (Term.MakesT w (unmetT nm s)) := by
  obtain ⟨W, hW⟩ : ∃ W, W = w.alloc (.cells #[.string ⟨#[]⟩, .slice none 0 0, .bool false] 77) := ⟨_, rfl⟩
  have hbW : Below w.heap.size w W := by rw [hW]; exact alloc_b _
  have bk : Blk W w.heap.size 77 #[.string ⟨#[]⟩, .slice none 0 0, .bool false] := by rw [hW]; exact Blk.new _ _ _
  have hlW := bk.lt
  have HN : Hid (Calls Tryz.prog 125 #[.agg #[.string nm, .slice A n c, .bool false]] W (Term.MakesT W (unmetT nm s))) := hide (refNotT_any nm s false A n c W (h.on hbW) hn)
  unfold Term.MakesT at HN ⊢
  generalize unmetT nm s = R at *
  clear h hn
  go_enter Tryz.func85, Tryz.ntmps85
  go_upto_region 1 with fail
  try rw [← hW]
  clear hW
  go_wp2_with (first
    | (go_at_call 125
       refine HN.out.mono ?_
       rintro e w1 ⟨A1, n1, c1, rfl, hN1, hb1⟩
       have hbw := hbW.trans (hb1.mono hbW.size)
       have bk1 := bk.below hb1 bk.lt
       have k0 := bk1.cell 0
       have k1 := bk1.cell 1
       have k2 := bk1.cell 2
       have f0 := bk1.frozen 0
       have f1 := bk1.frozen 1
       have f2 := bk1.frozen 2))
  have hblk := stored_row (u := .string R.name) (v := .slice A1 n1 c1) (x := .bool R.none) bk1 rfl
  refine bodyPost_ret (results_cell_row rfl _ _ w.heap.size 77 _ (0, 0) _ rfl hblk Tryz.underlying77 rfl rfl) rfl ?_
  exact ⟨A1, n1, c1, rfl, (three_new hN1 (by omega) _ _ _).less (by omega), three_b hbw (by omega) _ _ _⟩
set_option maxHeartbeats 4000000 in
set_option maxRecDepth 100000 in
theorem refAsked_any (root : List Nd) (nm : ByteArray) (A : Option Addr) (n c : Nat) (w : World) (h : NdOn w A n root) (hn : n ≤ 1000000) (hok : okS root = true) :
    Calls Tryz.prog 57 #[.slice A n c, .string nm] w (MakesR w (askedC root nm)) := by
  have HF := hide (refFindN_any root nm A n c w h (by omega))
  unfold Finds at HF
  unfold MakesR
  clear h hn
  cases f : findS root nm with
  | none =>
    have e : askedC root nm = none := by unfold askedC; rw [f]
    rw [e]
    rw [f] at HF
    clear e f hok
    go_enter Tryz.func57, Tryz.ntmps57
    go_wp2_with (first
      | (go_at_call 83
         refine HF.out.mono ?_
         rintro e w1 ⟨A1, n1, c1, rfl, h1, hb1⟩))
    go_ret2
    exact ⟨none, 0, 0, rfl, TmR.nil _ _ _, hb1⟩
  | some s =>
    have e : askedC root nm = makeC [unmetT nm s] := by unfold askedC; rw [f]
    rw [e]
    rw [f] at HF
    have hq : (nm, s) ∈ root := find_in f
    obtain ⟨ho, _, _, hsets⟩ := okS_parts hok
    have hfit := (ok_all ho _ hq).2.1
    have hset : isSet (-1) s = true ∧ s.length ≤ 6 := hsets _ hq
    have hl7 := unmet_len (n := nm) hset.1 hset.2
    have hs6 := hset.2
    have HM := hide (fun (wx : World) (Aq : Option Addr) (cq : Nat) (hq : TmR wx wx.heap.size Aq 1 [unmetT nm s]) => refMakeR_any [unmetT nm s] Aq 1 cq wx hq (fun t ht => by rw [List.mem_singleton.1 ht]; exact unmet_ok s hfit) (by rw [sumC_cons]; show _ + 0 ≤ _; omega) (by omega))
    unfold MakesR at HM
    have HU := hide (fun (wx : World) (A1 : Option Addr) (n1 c1 : Nat) (hx : SpOn wx A1 n1 s) => refUnmet_any nm s A1 n1 c1 wx hx (by have := hx.len; omega))
    unfold Term.MakesT at HU
    generalize makeC [unmetT nm s] = R at *
    generalize unmetT nm s = U at *
    clear e f hok hq ho hsets hfit hset hl7 hs6
    go_enter Tryz.func57, Tryz.ntmps57
    go_wp2_with (first
      | (go_at_call 83
         refine HF.out.mono ?_
         rintro e w1 ⟨A1, n1, c1, rfl, h1, hb1⟩)
      | (go_at_call 85
         refine (HU.out _ _ _ _ h1).mono ?_
         rintro e w2 ⟨A2, n2, c2, rfl, hN2, hb2⟩
         have hR2 := one_tmR w2 U.name A2 n2 c2 U.none (InS.of_new hN2) _ rfl
         have hb3 := hb1.trans (hb2.mono hb1.size)
         have hb4 := hb3.alloc hb3.size (.cells #[.string U.name, .slice A2 n2 c2, .bool U.none] 77))
      | (go_at_call 84
         refine (HM.out _ _ _ hR2).mono ?_
         rintro e w4 ⟨A4, n4, c4, rfl, h4, hb4x⟩
         have hb5 := hb4.trans (hb4x.mono hb4.size)))
    go_ret2
    exact ⟨A4, n4, c4, rfl, h4, hb5⟩
theorem at_nil {X : List Kn} {nm : ByteArray} (h : atX X nm = none) : releasedC X nm = none := by unfold releasedC; rw [h]
theorem at_get {X : List Kn} {nm : ByteArray} {k : Kv} (h : atX X nm = some k) : getX X nm = k := by unfold getX; rw [h]; rfl
theorem released_ok {X : List Kn} (hX : OkX X) {nm : ByteArray} {k : Kv} (h : atX X nm = some k) : okT ⟨nm, notS (versS k.1), false⟩ = true ∧ (notS (versS k.1)).length ≤ 31 ∧ k.1.length ≤ 30 ∧ FineR k.1 := by
  have hf := hX.fine.get nm
  rw [at_get h] at hf
  have h1 := vers_len k.1
  have h2 := not_len (vers_set k.1)
  have h3 := hf.1
  exact ⟨one_ok (known_fit hX.fits h) (nf_set _), by omega, h3, hf⟩
set_option maxHeartbeats 4000000 in
set_option maxRecDepth 100000 in
theorem refReleased_any (X : List Kn) (nm : ByteArray) (A : Option Addr) (n c : Nat) (w : World) (h : InK w A n X) (hX : OkX X) :
    Calls Tryz.prog 58 #[.agg #[.slice A n c], .string nm] w (MakesR w (releasedC X nm)) := by
  unfold MakesR
  have hn : n ≤ 100 := by rw [← h.len]; exact hX.few
  have hb0 := alloc_b (w := w) (.cells #[.slice A n c] 33)
  have HH := hide (fun (wx : World) (hx : Below w.heap.size w wx) => refHasX_any X nm A n c wx (h.below hx) (by omega))
  have HG := hide (fun (wx : World) (hx : Below w.heap.size w wx) => refGetX_any X nm A n c wx (h.below hx) (by omega))
  unfold Tells at HH
  unfold Gots at HG
  cases hk : atX X nm with
  | none =>
    rw [at_nil hk]
    rw [hk] at HH
    clear hk h hX HG
    go_enter Tryz.func58, Tryz.ntmps58
    go_wp2_with (first
      | (go_at_call 45
         refine (HH.out _ hb0).mono ?_
         rintro e w1 ⟨rfl, hb1⟩))
    go_ret2
    exact ⟨none, 0, 0, rfl, TmR.nil _ _ _, hb0.trans (hb1.mono hb0.size)⟩
  | some k =>
    obtain ⟨hok, hl31, hk30, hfine⟩ := released_ok hX hk
    have e : releasedC X nm = makeC [⟨nm, notS (versS k.1), false⟩] := by unfold releasedC; rw [hk]
    rw [e]
    rw [hk] at HH
    rw [at_get hk] at HG
    have hv := vers_len k.1
    have HM := hide (fun (wx : World) (Aq : Option Addr) (cq : Nat) (hq : TmR wx wx.heap.size Aq 1 [⟨nm, notS (versS k.1), false⟩]) => refMakeR_any [⟨nm, notS (versS k.1), false⟩] Aq 1 cq wx hq (fun t ht => by rw [List.mem_singleton.1 ht]; exact hok) (by rw [sumC_cons]; show _ + 0 ≤ _; simp only; omega) (by omega))
    unfold MakesR at HM
    have HV := hide (fun (wx : World) (A1 : Option Addr) (n1 c1 : Nat) (hx : RlOn wx A1 n1 k.1) => refVersM_any nm k.1 A1 n1 c1 wx hx (by have := hx.len; omega))
    unfold Makes at HV
    have HN := hide (fun (wx : World) (A1 : Option Addr) (n1 c1 : Nat) (hx : SpOn wx A1 n1 (versS k.1)) => @refNot_any wx.heap.size n1 c1 A1 (versS k.1) wx hx (Nat.le_refl _) (by have := hx.len; omega))
    generalize makeC [⟨nm, notS (versS k.1), false⟩] = R at *
    generalize notS (versS k.1) = U at *
    have hb0s := hb0.size
    have Hb0 := hide (⟨(Blk.new w 33 #[.slice A n c])⟩ : Nonempty (Blk (w.alloc (.cells #[.slice A n c] 33)) w.heap.size 33 #[.slice A n c]))
    clear e hk h hX hok hl31 hk30 hfine hv
    go_enter Tryz.func58, Tryz.ntmps58
    go_wp2_with (first
      | (go_at_call 45
         refine (HH.out _ hb0).mono ?_
         rintro e w1 ⟨rfl, hb1x⟩
         have hb1 := hb0.trans (hb1x.mono hb0s)
         have q0 := (((Blk.new w 33 #[.slice A n c]).below hb1x (by simp)).cell 0).trans (show (#[Value.slice A n c] : Array Value)[0]? = some (.slice A n c) from rfl))
      | (go_at_call 86
         refine (HG.out _ hb1).mono ?_
         rintro e w2 ⟨A2, n2, c2, B2, r2, rfl, hR2, hb2x⟩
         have hb2 := hb1.trans (hb2x.mono hb1.size)
         have hb2a := hb2.alloc hb2.size (.cells #[.string nm, .slice A2 n2 c2] 100)
         have hR2a := hR2.below (alloc_b (.cells #[.string nm, .slice A2 n2 c2] 100))
         have hT2 := rls_on hR2a)
      | (go_at_call 88
         refine (HV.out _ _ _ _ hT2).mono ?_
         rintro e w3 ⟨A3, n3, c3, rfl, h3, hb3x⟩
         have hb3 := hb2a.trans (hb3x.mono hb2a.size))
      | (go_at_call 87
         refine (HN.out _ _ _ _ h3).mono ?_
         rintro e w4 ⟨A4, n4, c4, rfl, hN4, hb4x⟩
         have hb4 := hb3.trans (hb4x.mono hb3.size)
         have hR4 := one_tmR w4 nm A4 n4 c4 false (InS.of_new hN4) _ rfl
         have hb5 := hb4.alloc hb4.size (.cells #[.string nm, .slice A4 n4 c4, .bool false] 77))
      | (go_at_call 84
         refine (HM.out _ _ _ hR4).mono ?_
         rintro e w6 ⟨A6, n6, c6, rfl, h6, hb6x⟩
         have hb6 := hb5.trans (hb6x.mono hb5.size)))
    go_ret2
    exact ⟨A6, n6, c6, rfl, h6, hb6⟩
theorem refOneIn_any (p : Int) (h0 : 0 ≤ p) (h1 : p < 1000000000) (w : World) :
    Calls Tryz.prog 90 #[.int .i64 p] w fun e w' => ∃ A n c, e = .returned (.slice A n c) ∧ InS w' 0 A n (atS p) ∧ Below w.heap.size w w' := by
  have hrd := hide (spIn_of_reads (reads_one w p (p + 1) _ rfl))
  go_enter Tryz.func90, Tryz.ntmps90
  go_wp2
  go_ret
  exact ⟨some ⟨w.heap.size, 0, none⟩, 1, 1, rfl, ⟨(hrd.out).more (by simp), fun ad hA _ => .inr ⟨_, _, by injection hA with hA; subst hA; exact heap_alloc_new w _⟩⟩, (Below.refl _ _).alloc (Nat.le_refl _) _⟩
theorem needed_none {X : List Kn} {nm tn : ByteArray} {v : Int} (h : relX X nm v = none) : neededC X nm v tn = none := by unfold neededC; rw [h]
theorem needed_ok1 {X : List Kn} (hX : OkX X) {nm tn : ByteArray} {v : Int} {r : Rl} {s : List S} (h : relX X nm v = some r) (hs : findS r.2 tn = some s) :
    (0 ≤ v ∧ v < 1000000000) ∧ okT ⟨nm, atS v, false⟩ = true ∧ okT (unmetT tn s) = true ∧ (unmetT tn s).set.length ≤ 7 ∧ s.length ≤ 6 := by
  obtain ⟨k, hk, hr, hv⟩ := rel_known h
  have hin := atX_in hk
  have hver := hX.vers _ hin r hr
  rw [hv] at hver
  have hok : okS r.2 = true := hX.sets _ hin r hr
  obtain ⟨ho, _, _, hsets⟩ := okS_parts hok
  have hq := find_in hs
  have hset : isSet (-1) s = true ∧ s.length ≤ 6 := hsets _ hq
  refine ⟨hver, one_ok (known_fit hX.fits hk) ?_, unmet_ok s (ok_all ho _ hq).2.1, unmet_len hset.1 hset.2, hset.2⟩
  rw [← at_one hver.1 hver.2]
  exact nf_set _
set_option maxHeartbeats 8000000 in
set_option maxRecDepth 100000 in
theorem refNeeded_any (X : List Kn) (nm : ByteArray) (v : Int) (tn : ByteArray) (A : Option Addr) (n c : Nat) (w : World) (h : InK w A n X) (hX : OkX X) :
    Calls Tryz.prog 59 #[.agg #[.slice A n c], .string nm, .int .i64 v, .string tn] w (MakesR w (neededC X nm v tn)) := by
  unfold MakesR
  have hn : n ≤ 100 := by rw [← h.len]; exact hX.few
  have hb0 := alloc_b (w := w) (.cells #[.slice A n c] 33)
  have hf := hX.fine.get nm
  have HG := hide (refGetX_any X nm A n c _ (h.below hb0) (by omega))
  unfold Gots at HG
  have HR := hide (fun (wx : World) (A1 : Option Addr) (n1 c1 : Nat) (hx : RlOn wx A1 n1 (getX X nm).1) => refGetM_any v nm (getX X nm).1 A1 n1 c1 wx hx hf)
  unfold Gets at HR
  have hrel : getR (getX X nm).1 v = relX X nm v := rfl
  rw [hrel] at HR
  have HF := hide (fun (wx : World) (A1 : Option Addr) (n1 c1 : Nat) (hx : NdOn wx A1 n1 ((relX X nm v).getD (0, [])).2) (h1 : n1 ≤ 100) => refFindN_any ((relX X nm v).getD (0, [])).2 tn A1 n1 c1 wx hx (by omega))
  unfold Finds at HF
  have hlen : ((relX X nm v).getD (0, [])).2.length ≤ 100 := by
    cases hr : relX X nm v with
    | none => simp
    | some r =>
      obtain ⟨k, hk, hr1, _⟩ := rel_known hr
      have := (okS_parts (hX.sets _ (atX_in hk) r hr1)).2.1
      show r.2.length ≤ 100
      omega
  cases hr : relX X nm v with
  | none =>
    rw [needed_none hr]
    rw [hr] at HR HF hlen
    simp only [Option.getD_none, Option.isSome_none] at HR HF
    rw [show findS [] tn = none from rfl] at HF
    have HL := hide hlen
    simp only [Option.getD_none] at HL
    clear hr h hX hf hrel hlen
    go_enter Tryz.func59, Tryz.ntmps59
    go_wp2_with (first
      | (go_at_call 83
         refine (HF.out _ _ _ _ h3a (by have := h3a.len; have := HL.out; omega)).mono ?_
         rintro e w4 ⟨A4, n4, c4, rfl, h4, hb4x⟩
         have hb4 := hb3a.trans (hb4x.mono hb3a.size))
      | (go_at_call 89
         refine (HR.out _ _ _ _ hT2).mono ?_
         rintro e w3 ⟨A3, n3, c3, rfl, h3, hb3x⟩
         have hb3 := hb2a.trans (hb3x.mono hb2a.size)
         have hb3a := hb3.alloc hb3.size (.cells #[.int .i64 0, .slice A3 n3 c3] 136)
         have h3a := h3.on (alloc_b (.cells #[.int .i64 0, .slice A3 n3 c3] 136)))
      | (go_at_call 86
         refine HG.out.mono ?_
         rintro e w2 ⟨A2, n2, c2, B2, r2, rfl, hR2, hb2x⟩
         have hb2 := hb0.trans (hb2x.mono hb0.size)
         have hb2a := hb2.alloc hb2.size (.cells #[.string nm, .slice A2 n2 c2] 100)
         have hR2a := hR2.below (alloc_b (.cells #[.string nm, .slice A2 n2 c2] 100))
         have hT2 := rls_on hR2a))
    go_ret2
    exact ⟨none, 0, 0, rfl, TmR.nil _ _ _, hb4⟩
  | some r =>
    rw [hr] at HR HF hlen
    simp only [Option.getD_some, Option.isSome_some] at HR HF hlen
    have HL := hide hlen
    clear hlen
    cases hs : findS r.2 tn with
    | none =>
      have e : neededC X nm v tn = none := by unfold neededC; rw [hr]; simp only; rw [hs]
      rw [e]
      rw [hs] at HF
      clear e hr hs h hX hf hrel
      go_enter Tryz.func59, Tryz.ntmps59
      go_wp2_with (first
        | (go_at_call 83
           refine (HF.out _ _ _ _ h3a (by have := h3a.len; have := HL.out; omega)).mono ?_
           rintro e w4 ⟨A4, n4, c4, rfl, h4, hb4x⟩
           have hb4 := hb3a.trans (hb4x.mono hb3a.size))
        | (go_at_call 89
           refine (HR.out _ _ _ _ hT2).mono ?_
           rintro e w3 ⟨A3, n3, c3, rfl, h3, hb3x⟩
           have hb3 := hb2a.trans (hb3x.mono hb2a.size)
           have hb3a := hb3.alloc hb3.size (.cells #[.int .i64 r.1, .slice A3 n3 c3] 136)
           have h3a := h3.on (alloc_b (.cells #[.int .i64 r.1, .slice A3 n3 c3] 136)))
        | (go_at_call 86
           refine HG.out.mono ?_
           rintro e w2 ⟨A2, n2, c2, B2, r2, rfl, hR2, hb2x⟩
           have hb2 := hb0.trans (hb2x.mono hb0.size)
           have hb2a := hb2.alloc hb2.size (.cells #[.string nm, .slice A2 n2 c2] 100)
           have hR2a := hR2.below (alloc_b (.cells #[.string nm, .slice A2 n2 c2] 100))
           have hT2 := rls_on hR2a))
      go_ret2
      exact ⟨none, 0, 0, rfl, TmR.nil _ _ _, hb4⟩
    | some s =>
      have e : neededC X nm v tn = makeC [⟨nm, atS v, false⟩, unmetT tn s] := by unfold neededC; rw [hr]; simp only; rw [hs]
      rw [e]
      rw [hs] at HF
      obtain ⟨hv, ho1, ho2, hl7, hs6⟩ := needed_ok1 hX hr hs
      have HO := hide (fun (wx : World) => refOneIn_any v hv.1 hv.2 wx)
      have HU := hide (fun (wx : World) (A1 : Option Addr) (n1 c1 : Nat) (hx : SpOn wx A1 n1 s) => refUnmet_any tn s A1 n1 c1 wx hx (by have := hx.len; omega))
      unfold Term.MakesT at HU
      have HM := hide (fun (wx : World) (Aq : Option Addr) (cq : Nat) (hq : TmR wx wx.heap.size Aq 2 [⟨nm, atS v, false⟩, unmetT tn s]) => refMakeR_any [⟨nm, atS v, false⟩, unmetT tn s] Aq 2 cq wx hq (fun t ht => by
        rcases List.mem_cons.1 ht with rfl | ht
        · exact ho1
        · rw [List.mem_singleton.1 ht]; exact ho2) (by rw [sumC_cons, sumC_cons]; show 1 + (_ + 0) ≤ _; omega) (by omega))
      unfold MakesR at HM
      simp only [Option.getD_some, Option.isSome_some] at HF
      generalize makeC [⟨nm, atS v, false⟩, unmetT tn s] = R at *
      generalize unmetT tn s = U at *
      generalize atS v = Z at *
      clear e hr hs h hX hf hrel ho1 ho2 hl7 hv
      go_enter Tryz.func59, Tryz.ntmps59
      go_wp2_with (first
        | (go_at_call 84
           refine (HM.out _ _ _ hR6).mono ?_
           rintro e w8 ⟨A8, n8, c8, rfl, h8, hb8x⟩
           have hb8 := hb7.trans (hb8x.mono hb7.size))
        | (go_at_call 85
           refine (HU.out _ _ _ _ h45).mono ?_
           rintro e w6 ⟨A6, n6, c6, rfl, hN6, hb6x⟩
           have hb6 := hb5.trans (hb6x.mono hb5.size)
           have hR6 := two_tmR w6 nm A5 n5 c5 false U.name A6 n6 c6 U.none (hI5.below hb6x) (InS.of_new hN6) _ rfl
           have hb7 := hb6.alloc hb6.size (.cells #[.string nm, .slice A5 n5 c5, .bool false, .string U.name, .slice A6 n6 c6, .bool U.none] 77))
        | (go_at_call 90
           refine (HO.out _).mono ?_
           rintro e w5 ⟨A5, n5, c5, rfl, hI5, hb5x⟩
           have hb5 := hb4.trans (hb5x.mono hb4.size)
           have h45 := h4.on hb5x)
        | (go_at_call 83
           refine (HF.out _ _ _ _ h3a (by have := h3a.len; have := HL.out; omega)).mono ?_
           rintro e w4 ⟨A4, n4, c4, rfl, h4, hb4x⟩
           have hb4 := hb3a.trans (hb4x.mono hb3a.size))
        | (go_at_call 89
           refine (HR.out _ _ _ _ hT2).mono ?_
           rintro e w3 ⟨A3, n3, c3, rfl, h3, hb3x⟩
           have hb3 := hb2a.trans (hb3x.mono hb2a.size)
           have hb3a := hb3.alloc hb3.size (.cells #[.int .i64 r.1, .slice A3 n3 c3] 136)
           have h3a := h3.on (alloc_b (.cells #[.int .i64 r.1, .slice A3 n3 c3] 136)))
        | (go_at_call 86
           refine HG.out.mono ?_
           rintro e w2 ⟨A2, n2, c2, B2, r2, rfl, hR2, hb2x⟩
           have hb2 := hb0.trans (hb2x.mono hb0.size)
           have hb2a := hb2.alloc hb2.size (.cells #[.string nm, .slice A2 n2 c2] 100)
           have hR2a := hR2.below (alloc_b (.cells #[.string nm, .slice A2 n2 c2] 100))
           have hT2 := rls_on hR2a))
      go_ret2
      exact ⟨A8, n8, c8, rfl, h8, hb8⟩
end Go.Proofs.YtdmejcfnolhplaaGreat.Fact
/-
  Plain mathematics of judging: how long the clashes of a proof's steps may become. Each span of theirs begins where a span of a fact of the same name does, and each name is a fact's. No program.
-/
namespace Go.Proofs.YtdmejcfnolhplaaGreat.Judge
open Go.RowKit Go.Lib Go.Proofs.YtdmejcfnolhplaaGreat.Label Go.Proofs.YtdmejcfnolhplaaGreat.Span Go.Proofs.YtdmejcfnolhplaaGreat.Need Go.Proofs.YtdmejcfnolhplaaGreat.Mani Go.Proofs.YtdmejcfnolhplaaGreat.Wire Go.Proofs.YtdmejcfnolhplaaGreat.Depot Go.Proofs.YtdmejcfnolhplaaGreat.Index Go.Proofs.YtdmejcfnolhplaaGreat.Reach Go.Proofs.YtdmejcfnolhplaaGreat.Pick Go.Proofs.YtdmejcfnolhplaaGreat.Fit Go.Proofs.YtdmejcfnolhplaaGreat.Term Go.Proofs.YtdmejcfnolhplaaGreat.Clash Go.Proofs.YtdmejcfnolhplaaGreat.Proof
open Go.Proofs.YtdmejcfnolhplaaGreat.Fact (askedC releasedC neededC unmetT atS OkX unmet_len unmet_ok FitX)
set_option linter.unusedVariables false
abbrev Pr := ByteArray × Int
def prsT (t : Tm) : List Pr := t.set.map fun s => (t.name, s.1)
def prsC (c : List Tm) : List Pr := c.flatMap prsT
theorem prsT_mem {t : Tm} {p : Pr} : p ∈ prsT t ↔ p.1 = t.name ∧ p.2 ∈ t.set.map Prod.fst := by
  unfold prsT
  constructor
  · intro h
    obtain ⟨s, hs, rfl⟩ := List.mem_map.1 h
    exact ⟨rfl, List.mem_map.2 ⟨s, hs, rfl⟩⟩
  · rintro ⟨h1, h2⟩
    obtain ⟨s, hs, e⟩ := List.mem_map.1 h2
    exact List.mem_map.2 ⟨s, hs, by rw [← h1, e]⟩
theorem prsC_mem {c : List Tm} {p : Pr} : p ∈ prsC c ↔ ∃ t ∈ c, p ∈ prsT t := List.mem_flatMap
theorem prsC_cons (t : Tm) (c : List Tm) : prsC (t :: c) = prsT t ++ prsC c := by unfold prsC; rw [List.flatMap_cons]
theorem prsC_len : ∀ c : List Tm, (prsC c).length = sumC c
  | [] => rfl
  | t :: r => by rw [prsC_cons, List.length_append, prsC_len r, sumC_cons]; unfold prsT; rw [List.length_map]
theorem meet_starts {a b : List S} (ha : isSet (-1) a = true) (hb : isSet (-1) b = true) : ∀ p ∈ (meetS a b).map Prod.fst, p ∈ a.map Prod.fst ∨ p ∈ b.map Prod.fst := fun x hx => by
  obtain ⟨s, hs, rfl⟩ := List.mem_map.1 hx
  obtain ⟨h1, h2⟩ := nf_before hs
  have h1' : (has a s.1 && has b s.1) = true := h1
  simp only [Bool.and_eq_true] at h1'
  rcases h2 with h0 | h2
  · exact .inl (start_edge h1'.1 (by rw [h0]; exact none_below ha))
  · have h2' : (has a (s.1 - 1) && has b (s.1 - 1)) = false := h2
    cases g : has a (s.1 - 1) with
    | false => exact .inl (start_edge h1'.1 g)
    | true =>
      rw [g] at h2'
      exact .inr (start_edge h1'.2 h2')
theorem union_starts {a b : List S} (ha : isSet (-1) a = true) (hb : isSet (-1) b = true) : ∀ p ∈ (unionS a b).map Prod.fst, p ∈ a.map Prod.fst ∨ p ∈ b.map Prod.fst := fun x hx => by
  obtain ⟨s, hs, rfl⟩ := List.mem_map.1 hx
  obtain ⟨h1, h2⟩ := nf_before hs
  have h1' : (has a s.1 || has b s.1) = true := h1
  have h2' : has a (s.1 - 1) = false ∧ has b (s.1 - 1) = false := by
    rcases h2 with h0 | h2
    · rw [h0]; exact ⟨none_below ha, none_below hb⟩
    · have h2' : (has a (s.1 - 1) || has b (s.1 - 1)) = false := h2
      simpa using h2'
  cases g : has a s.1 with
  | true => exact .inl (start_edge g h2'.1)
  | false =>
    rw [g] at h1'
    exact .inr (start_edge h1' h2'.2)
theorem ok_set {t : Tm} (h : okT t = true) : isSet (-1) t.set = true := by
  unfold okT at h
  simp only [Bool.and_eq_true] at h
  exact h.2
theorem prs_meet {x y : Tm} (hx : okT x = true) (hy : okT y = true) (e : x.name = y.name) {p : Pr} (hp : p ∈ prsT (meetT x y)) : p ∈ prsT x ∨ p ∈ prsT y := by
  unfold meetT at hp
  rw [if_pos e] at hp
  obtain ⟨h1, h2⟩ := prsT_mem.1 hp
  rcases meet_starts (ok_set hx) (ok_set hy) p.2 h2 with h | h
  · exact .inl (prsT_mem.2 ⟨h1, h⟩)
  · exact .inr (prsT_mem.2 ⟨h1.trans e, h⟩)
theorem prs_join {x y : Tm} (hx : okT x = true) (hy : okT y = true) (e : x.name = y.name) {p : Pr} (hp : p ∈ prsT (joinT x y)) : p ∈ prsT x ∨ p ∈ prsT y := by
  unfold joinT at hp
  rw [if_pos e] at hp
  obtain ⟨h1, h2⟩ := prsT_mem.1 hp
  rcases union_starts (ok_set hx) (ok_set hy) p.2 h2 with h | h
  · exact .inl (prsT_mem.2 ⟨h1, h⟩)
  · exact .inr (prsT_mem.2 ⟨h1.trans e, h⟩)
theorem prs_put {t : Tm} (ht : okT t = true) {p : Pr} : ∀ (c : List Tm) (f : Bool), (∀ x ∈ c, okT x = true) → p ∈ prsC (putC t f c) → p ∈ prsT t ∨ p ∈ prsC c
  | [], f, h, hp => by
    rw [putC] at hp
    split at hp
    · cases hp
    · rw [prsC_cons] at hp
      exact .inl (by simpa [prsC] using hp)
  | x :: r, f, h, hp => by
    have hx := h x (by simp)
    have hr : ∀ y ∈ r, okT y = true := fun y hy => h y (by simp [hy])
    have go : ∀ g, p ∈ prsC (putC t g r) → p ∈ prsT t ∨ p ∈ prsC (x :: r) := fun g hg => (prs_put ht r g hr hg).imp id (fun h => by rw [prsC_cons]; exact List.mem_append_right _ h)
    rw [putC] at hp
    split at hp
    · rename_i e
      rw [prsC_cons] at hp
      rcases List.mem_append.1 hp with hp | hp
      · rcases prs_meet hx ht e hp with h | h
        · exact .inr (by rw [prsC_cons]; exact List.mem_append_left _ h)
        · exact .inl h
      · exact go _ hp
    · split at hp
      · rw [prsC_cons, prsC_cons] at hp
        rcases List.mem_append.1 hp with hp | hp
        · exact .inl hp
        · rcases List.mem_append.1 hp with hp | hp
          · exact .inr (by rw [prsC_cons]; exact List.mem_append_left _ hp)
          · exact go _ hp
      · rw [prsC_cons] at hp
        rcases List.mem_append.1 hp with hp | hp
        · exact .inr (by rw [prsC_cons]; exact List.mem_append_left _ hp)
        · exact go _ hp
theorem prs_puts {l : List Tm} (h : ∀ t ∈ l, okT t = true) {p : Pr} (hp : p ∈ prsC (putsC l)) : p ∈ prsC l := by
  have key : ∀ (l c : List Tm), (∀ t ∈ l, okT t = true) → (∀ t ∈ c, okT t = true) → p ∈ prsC (l.foldl (fun c t => putC t false c) c) → p ∈ prsC c ∨ p ∈ prsC l := by
    intro l
    induction l with
    | nil => intro c _ _ h; exact .inl h
    | cons t r ih =>
      intro c h0 h2 hp
      rw [List.foldl_cons] at hp
      rcases ih _ (fun y hy => h0 y (by simp [hy])) (put_ok (h0 t (by simp)) false h2) hp with h | h
      · rcases prs_put (h0 t (by simp)) c false h2 h with h | h
        · exact .inr (by rw [prsC_cons]; exact List.mem_append_left _ h)
        · exact .inl h
      · exact .inr (by rw [prsC_cons]; exact List.mem_append_right _ h)
  rcases key l [] h (fun z hz => by cases hz) hp with h | h
  · cases h
  · exact h
theorem names_puts {l : List Tm} {z : Tm} (hz : z ∈ putsC l) : ∃ x ∈ l, z.name = x.name := by
  have key : ∀ (l c : List Tm), z ∈ l.foldl (fun c t => putC t false c) c → (∃ x ∈ c, z.name = x.name) ∨ ∃ x ∈ l, z.name = x.name := by
    intro l
    induction l with
    | nil => intro c h; exact .inl ⟨z, h, rfl⟩
    | cons t r ih =>
      intro c hp
      rw [List.foldl_cons] at hp
      rcases ih _ hp with ⟨x, hx, e⟩ | ⟨x, hx, e⟩
      · rcases put_names t c false x hx with h | ⟨y, hy, h⟩
        · exact .inr ⟨t, by simp, e.trans h⟩
        · exact .inl ⟨y, hy, e.trans h⟩
      · exact .inr ⟨x, by simp [hx], e⟩
  rcases key l [] hz with ⟨x, hx, _⟩ | h
  · cases hx
  · exact h
theorem make_prs {l m : List Tm} (hl : ∀ t ∈ l, okT t = true) (h : makeC l = some m) : (∀ p ∈ prsC m, p ∈ prsC l) ∧ ∀ z ∈ m, ∃ x ∈ l, z.name = x.name := by
  unfold makeC at h
  split at h
  · cases h
  · injection h with h
    subst h
    refine ⟨fun p hp => ?_, fun z hz => names_puts (List.mem_filter.1 hz).1⟩
    obtain ⟨t, ht, hp⟩ := prsC_mem.1 hp
    exact prs_puts hl (prsC_mem.2 ⟨t, (List.mem_filter.1 ht).1, hp⟩)
theorem join_prs {a b j : List Tm} {n : ByteArray} (ha : ∀ t ∈ a, okT t = true) (hb : ∀ t ∈ b, okT t = true) (h : joinC a b n = some j) : (∀ p ∈ prsC j, p ∈ prsC a ∨ p ∈ prsC b) ∧ ∀ z ∈ j, (∃ x ∈ a, z.name = x.name) ∨ ∃ x ∈ b, z.name = x.name := by
  cases hx : findC a n with
  | none => unfold joinC at h; rw [hx] at h; cases h
  | some x =>
    cases hy : findC b n with
    | none => unfold joinC at h; rw [hx, hy] at h; cases h
    | some y =>
      unfold joinC at h
      rw [hx, hy] at h
      simp only [] at h
      have hxa := find_name hx
      have hyb := find_name hy
      have hok : ∀ t ∈ joinT x y :: dropC a n ++ dropC b n, okT t = true := fun t ht => by
        rcases List.mem_append.1 ht with ht | ht
        · rcases List.mem_cons.1 ht with rfl | ht
          · exact ok_join (ha x hxa.1) (hxa.2.trans hyb.2.symm)
          · exact ha t (List.mem_filter.1 ht).1
        · exact hb t (List.mem_filter.1 ht).1
      obtain ⟨h1, h2⟩ := make_prs hok h
      have hn : (joinT x y).name = x.name := by unfold joinT; rw [if_pos (hxa.2.trans hyb.2.symm)]
      refine ⟨fun p hp => ?_, fun z hz => ?_⟩
      · obtain ⟨t, ht, hp⟩ := prsC_mem.1 (h1 p hp)
        rcases List.mem_append.1 ht with ht | ht
        · rcases List.mem_cons.1 ht with rfl | ht
          · rcases prs_join (ha x hxa.1) (hb y hyb.1) (hxa.2.trans hyb.2.symm) hp with h | h
            · exact .inl (prsC_mem.2 ⟨x, hxa.1, h⟩)
            · exact .inr (prsC_mem.2 ⟨y, hyb.1, h⟩)
          · exact .inl (prsC_mem.2 ⟨t, (List.mem_filter.1 ht).1, hp⟩)
        · exact .inr (prsC_mem.2 ⟨t, (List.mem_filter.1 ht).1, hp⟩)
      · obtain ⟨t, ht, e⟩ := h2 z hz
        rcases List.mem_append.1 ht with ht | ht
        · rcases List.mem_cons.1 ht with rfl | ht
          · exact .inl ⟨x, hxa.1, e.trans hn⟩
          · exact .inl ⟨t, (List.mem_filter.1 ht).1, e⟩
        · exact .inr ⟨t, (List.mem_filter.1 ht).1, e⟩
/-! How many there are. -/
theorem apart_len {α : Type} : ∀ (L M : List α), L.Pairwise (fun x y => x ≠ y) → (∀ x ∈ L, x ∈ M) → L.length ≤ M.length
  | [], _, _, _ => Nat.zero_le _
  | x :: t, M, h, hm => by
    letI : DecidableEq α := fun a b => Classical.propDecidable (a = b)
    obtain ⟨h1, h2⟩ := List.pairwise_cons.1 h
    have hx := hm x (by simp)
    have ih := apart_len t (M.erase x) h2 (fun y hy => (List.mem_erase_of_ne (fun e => h1 y hy e.symm)).2 (hm y (by simp [hy])))
    rw [List.length_erase_of_mem hx] at ih
    have := List.length_pos_of_mem hx
    simp only [List.length_cons]
    omega
theorem prsT_apart {t : Tm} (h : okT t = true) : (prsT t).Pairwise (fun x y => x ≠ y) := by
  unfold prsT
  have := starts_rise (ok_set h)
  rw [List.pairwise_map] at this ⊢
  exact this.imp fun hlt e => by injection e with _ e2; omega
theorem prsC_apart : ∀ {c : List Tm}, RisesC c → (∀ t ∈ c, okT t = true) → (prsC c).Pairwise (fun x y => x ≠ y)
  | [], _, _ => List.Pairwise.nil
  | t :: r, hr, ho => by
    obtain ⟨h1, h2⟩ := List.pairwise_cons.1 hr
    rw [prsC_cons]
    refine List.pairwise_append.2 ⟨prsT_apart (ho t (by simp)), prsC_apart h2 fun y hy => ho y (by simp [hy]), fun p hp q hq e => ?_⟩
    obtain ⟨u, hu, hq⟩ := prsC_mem.1 hq
    exact nlt_ne (h1 u hu) (((prsT_mem.1 hp).1.symm.trans (by rw [e])).trans (prsT_mem.1 hq).1)
def InvC (P : List Pr) (N : List ByteArray) (c : List Tm) : Prop := OkC c ∧ (∀ p ∈ prsC c, p ∈ P) ∧ ∀ t ∈ c, t.name ∈ N
section
variable {P : List Pr} {N : List ByteArray} {c : List Tm}
theorem InvC.len (h : InvC P N c) : c.length ≤ N.length ∧ sumC c ≤ P.length := by
  obtain ⟨⟨h1, h2⟩, h3, h4⟩ := h
  refine ⟨?_, ?_⟩
  · have := apart_len (c.map Tm.name) N (by rw [List.pairwise_map]; exact h1.imp fun h => nlt_ne h) (fun x hx => by
      obtain ⟨t, ht, rfl⟩ := List.mem_map.1 hx
      exact h4 t ht)
    simpa using this
  · rw [← prsC_len]
    exact apart_len _ _ (prsC_apart h1 fun t ht => (h2 t ht).1) h3
theorem InvC.nil : InvC P N [] := ⟨⟨List.Pairwise.nil, (fun t ht => by cases ht)⟩, (fun p hp => by cases hp), (fun t ht => by cases ht)⟩
theorem inv_join {a b j : List Tm} {n : ByteArray} (ha : InvC P N a) (hb : InvC P N b) (h : joinC a b n = some j) : InvC P N j := by
  obtain ⟨h1, h2⟩ := join_prs (fun t ht => (ha.1.2 t ht).1) (fun t ht => (hb.1.2 t ht).1) h
  refine ⟨(join_sound ha.1 hb.1 h).1, fun p hp => (h1 p hp).elim (ha.2.1 p) (hb.2.1 p), fun z hz => ?_⟩
  rcases h2 z hz with ⟨x, hx, e⟩ | ⟨x, hx, e⟩
  · rw [e]; exact ha.2.2 x hx
  · rw [e]; exact hb.2.2 x hx
theorem inv_make {l m : List Tm} (hl : ∀ t ∈ l, okT t = true) (h : makeC l = some m) : InvC (prsC l) (l.map Tm.name) m := by
  obtain ⟨h1, h2⟩ := make_prs hl h
  refine ⟨make_ok hl h, h1, fun t ht => ?_⟩
  obtain ⟨x, hx, e⟩ := h2 t ht
  exact List.mem_map.2 ⟨x, hx, e.symm⟩
end
/-! Of an index that was put together. -/
def EightX (X : List Kn) : Prop := ∀ q ∈ X, q.2.1.length ≤ 8
theorem relE_eight (nm : ByteArray) (b : List UInt8) : (relE nm b).length ≤ 8 := by
  unfold relE
  split
  · rename_i h
    unfold goodE at h
    simp only [Bool.and_eq_true, decide_eq_true_eq] at h
    have hok : okM (readB b).1 (readB b).2 = true := by
      unfold readB
      rw [if_pos h.1]
      have h0 := h.1
      unfold errB at h0
      split at h0
      · exact absurd h0 (by simp)
      · split at h0
        · rename_i e; exact absurd h0 e
        · split at h0
          · rename_i e; exact e
          · exact absurd h0 (by simp)
    exact (okM_parts hok).1
  · exact Nat.zero_le _
theorem EightX.nil : EightX [] := fun q hq => by cases hq
theorem EightX.put {l : List Kn} (h : EightX l) (nm : ByteArray) (b : List UInt8) : EightX (putX l nm b) := by
  unfold putX
  split
  · intro q hq
    rcases (insX_mem _ _).1 hq with rfl | hq
    · exact relE_eight nm b
    · exact h q hq
  · exact h
theorem EightX.puts {l : List Kn} (h : EightX l) (es : List En) : EightX (putsX l es) := by
  induction es generalizing l with
  | nil => exact h
  | cons e t ih => exact ih (h.put e.1 e.2)
section
variable {X : List Kn} {root : List Nd}
theorem one_same {s : Sp} (k4 : s.kind ≠ 4) (hk : 1 ≤ s.kind ∧ s.kind ≤ 4) (o o' : List (List Tm)) : oneC X root s o = oneC X root s o' := by
  unfold oneC
  by_cases k1 : s.kind = 1
  · rw [if_pos k1, if_pos k1]
  · rw [if_neg k1, if_neg k1]
    by_cases k2 : s.kind = 2
    · rw [if_pos k2, if_pos k2]
    · rw [if_neg k2, if_neg k2, if_pos (by omega), if_pos (by omega)]
theorem may_kind {s : Sp} {i : Nat} (h : mayS s i = true) : (1 ≤ s.kind ∧ s.kind ≤ 4) ∧ fitL (runes s.name 0) = true := by
  unfold mayS at h
  simp only [Bool.and_eq_true, decide_eq_true_eq] at h
  exact ⟨h.1.1.1, h.1.1.2⟩
theorem fact_len (hX : OkX X) (h8 : EightX X) (hr : okS root = true) {s : Sp} {i : Nat} (hm : mayS s i = true) (k4 : s.kind ≠ 4) {o : List (List Tm)} {c : List Tm} (hc : oneC X root s o = some c) : OkC c ∧ sumC c ≤ 9 ∧ c.length ≤ 2 := by
  obtain ⟨hk, hn⟩ := may_kind hm
  have key : ∀ l : List Tm, (∀ t ∈ l, okT t = true) → makeC l = some c → sumC l ≤ 9 → l.length ≤ 2 → OkC c ∧ sumC c ≤ 9 ∧ c.length ≤ 2 := fun l hl h h9 h2 => by
    have hi := inv_make hl h
    have := hi.len
    rw [List.length_map, prsC_len] at this
    exact ⟨hi.1, by omega, by omega⟩
  unfold oneC at hc
  by_cases k1 : s.kind = 1
  · rw [if_pos k1] at hc
    unfold askedC at hc
    cases hf : findS root s.name with
    | none => rw [hf] at hc; cases hc
    | some x =>
      rw [hf] at hc
      obtain ⟨ho, _, _, hsets⟩ := okS_parts hr
      have hset : isSet (-1) x = true ∧ x.length ≤ 6 := hsets _ (find_in hf)
      have := unmet_len (n := s.name) hset.1 hset.2
      exact key _ (fun t ht => by rw [List.mem_singleton.1 ht]; exact Fact.unmet_ok x hn) hc (by rw [sumC_cons]; show _ + 0 ≤ 9; omega) (by simp)
  · rw [if_neg k1] at hc
    by_cases k2 : s.kind = 2
    · rw [if_pos k2] at hc
      unfold releasedC at hc
      cases hk : atX X s.name with
      | none => rw [hk] at hc; cases hc
      | some k =>
        rw [hk] at hc
        obtain ⟨h1, _, _, _⟩ := Fact.released_ok hX hk
        have h2 := Fact.vers_len k.1
        have h3 := Fact.not_len (Fact.vers_set k.1)
        have h4 := h8 _ (atX_in hk)
        exact key _ (fun t ht => by rw [List.mem_singleton.1 ht]; exact h1) hc (by rw [sumC_cons]; show (notS (versS k.1)).length + 0 ≤ 9; simp only [] at h4; omega) (by simp)
    · rw [if_neg k2, if_pos (show s.kind = 3 by omega)] at hc
      unfold neededC at hc
      cases hrel : relX X s.name s.ver with
      | none => rw [hrel] at hc; cases hc
      | some r =>
        rw [hrel] at hc
        cases hf : findS r.2 s.dest with
        | none => simp only [hf] at hc; cases hc
        | some x =>
          simp only [hf] at hc
          obtain ⟨_, h1, h2, h3, _⟩ := Fact.needed_ok1 hX hrel hf
          exact key _ (fun t ht => by
            rcases List.mem_cons.1 ht with rfl | ht
            · exact h1
            · rw [List.mem_singleton.1 ht]; exact h2) hc (by rw [sumC_cons, sumC_cons]; show 1 + (_ + 0) ≤ 9; omega) (by simp)
noncomputable def factC (X : List Kn) (root : List Nd) (s : Sp) : List Tm := if s.kind = 4 then [] else (oneC X root s []).getD []
noncomputable def prsS (X : List Kn) (root : List Nd) (l : List Sp) : List Pr := l.flatMap fun s => prsC (factC X root s)
noncomputable def nmsS (X : List Kn) (root : List Nd) (l : List Sp) : List ByteArray := l.flatMap fun s => (factC X root s).map Tm.name
theorem facts_len (hX : OkX X) (h8 : EightX X) (hr : okS root = true) : ∀ (l : List Sp), (∀ s ∈ l, ∃ i, mayS s i = true) → (prsS X root l).length ≤ 9 * l.length ∧ (nmsS X root l).length ≤ 2 * l.length
  | [], _ => ⟨Nat.zero_le _, Nat.zero_le _⟩
  | s :: r, h => by
    obtain ⟨h1, h2⟩ := facts_len hX h8 hr r fun q hq => h q (by simp [hq])
    obtain ⟨i, hm⟩ := h s (by simp)
    have h3 : sumC (factC X root s) ≤ 9 ∧ (factC X root s).length ≤ 2 := by
      unfold factC
      split
      · exact ⟨Nat.zero_le _, Nat.zero_le _⟩
      · rename_i k4
        cases e : oneC X root s [] with
        | none => exact ⟨Nat.zero_le _, Nat.zero_le _⟩
        | some c => exact (fact_len hX h8 hr hm k4 e).2
    unfold prsS nmsS at *
    rw [List.flatMap_cons, List.flatMap_cons, List.length_append, List.length_append, prsC_len, List.length_map, List.length_cons]
    omega
theorem inv_one (hX : OkX X) (h8 : EightX X) (hr : okS root = true) {whole : List Sp} {s : Sp} {i : Nat} (hs : s ∈ whole) (hm : mayS s i = true) {o : List (List Tm)} (ho : ∀ d ∈ o, InvC (prsS X root whole) (nmsS X root whole) d) {c : List Tm} (hc : oneC X root s o = some c) : InvC (prsS X root whole) (nmsS X root whole) c := by
  obtain ⟨hk, hn⟩ := may_kind hm
  by_cases k4 : s.kind = 4
  · unfold oneC at hc
    rw [if_neg (by omega), if_neg (by omega), if_neg (by omega)] at hc
    have hget : ∀ j : Nat, InvC (prsS X root whole) (nmsS X root whole) ((o[j]?).getD []) := fun j => by
      cases e : o[j]? with
      | none => exact InvC.nil
      | some d => exact ho d (List.mem_of_getElem? e)
    exact inv_join (hget _) (hget _) hc
  · obtain ⟨h1, _, _⟩ := fact_len hX h8 hr hm k4 hc
    have hf : factC X root s = c := by
      unfold factC
      rw [if_neg k4, one_same k4 hk [] o, hc]
      rfl
    refine ⟨h1, fun p hp => ?_, fun t ht => ?_⟩
    · exact List.mem_flatMap.2 ⟨s, hs, by rw [hf]; exact hp⟩
    · exact List.mem_flatMap.2 ⟨s, hs, by rw [hf]; exact List.mem_map.2 ⟨t, ht, rfl⟩⟩
theorem inv_fine (hX : OkX X) (h8 : EightX X) (hr : okS root = true) {whole : List Sp} (hw : ∀ s ∈ whole, ∃ i, mayS s i = true) (hn : whole.length ≤ 120) {c : List Tm} (h : InvC (prsS X root whole) (nmsS X root whole) c) : c.length ≤ 240 ∧ sumC c ≤ 1080 := by
  have h1 := h.len
  have h2 := facts_len hX h8 hr whole hw
  omega
end
end Go.Proofs.YtdmejcfnolhplaaGreat.Judge
/-
  Contracts of the document's own one, Clashes and Accept of a proof's steps. Condition: needs that may be; an index that was put together; steps that may be, at most 120.
-/
namespace Go.Proofs.YtdmejcfnolhplaaGreat.Judge
open Go Go.RowKit Go.Lib Go.Proofs.YtdmejcfnolhplaaGreat.Label Go.Proofs.YtdmejcfnolhplaaGreat.Span Go.Proofs.YtdmejcfnolhplaaGreat.Need Go.Proofs.YtdmejcfnolhplaaGreat.Mani Go.Proofs.YtdmejcfnolhplaaGreat.Index Go.Proofs.YtdmejcfnolhplaaGreat.Pick Go.Proofs.YtdmejcfnolhplaaGreat.Fit Go.Proofs.YtdmejcfnolhplaaGreat.Term Go.Proofs.YtdmejcfnolhplaaGreat.Clash Go.Proofs.YtdmejcfnolhplaaGreat.Proof
open Go.Proofs.YtdmejcfnolhplaaGreat.Fact (askedC releasedC neededC OkX TmR MakesR FcR FcIn FcOn Fcs AllF info_terms one_sliceJ refAsked_any refReleased_any refNeeded_any refJoinR_any)
set_option linter.unusedVariables false
def FewC (c : List Tm) : Prop := (∀ t ∈ c, okT t = true) ∧ c.length ≤ 240 ∧ sumC c ≤ 1080
theorem FewC.nil : FewC [] := ⟨(fun t ht => by cases ht), by simp, by simp [sumC]⟩
set_option maxHeartbeats 8000000 in
set_option maxRecDepth 100000 in
theorem refOne_any (X : List Kn) (root : List Nd) (k : Int) (nm : ByteArray) (v : Int) (d : ByteArray) (a b : Int) (o : List (List Tm)) (AX Ar Ao : Option Addr) (nX cX nr cr no co : Nat) (w : World) (hK : InK w AX nX X) (hX : OkX X) (hr : NdOn w Ar nr root) (hnr : nr ≤ 40) (hok : okS root = true) (ho : FcR w Ao no o) (hno : no ≤ 1000000)
    (hm : mayS ⟨k, nm, v, d, a, b⟩ no = true) (hfew : ∀ c ∈ o, FewC c) :
    Calls Tryz.prog 32 #[.agg #[.slice AX nX cX], .slice Ar nr cr, .agg #[.int .i64 k, .string nm, .int .i64 v, .string d, .int .i64 a, .int .i64 b], .slice Ao no co] w (MakesR w (oneC X root ⟨k, nm, v, d, a, b⟩ o)) := by
  obtain ⟨W0, hW0⟩ : ∃ W0, W0 = (w.alloc (.cells #[.slice AX nX cX] 33)).alloc (.cells #[.int .i64 k, .string nm, .int .i64 v, .string d, .int .i64 a, .int .i64 b] 53) := ⟨_, rfl⟩
  have hbW0 : Below w.heap.size w W0 := by rw [hW0]; exact ((Below.refl _ _).alloc (Nat.le_refl _) _).alloc (by simp) _
  have bX : Blk W0 w.heap.size 33 #[.slice AX nX cX] := by rw [hW0]; exact (Blk.new w _ _).alloc _
  have bS : Blk W0 (w.heap.size + 1) 53 #[.int .i64 k, .string nm, .int .i64 v, .string d, .int .i64 a, .int .i64 b] := by
    rw [hW0]
    have := Blk.new (w.alloc (.cells #[.slice AX nX cX] 33)) 53 #[.int .i64 k, .string nm, .int .i64 v, .string d, .int .i64 a, .int .i64 b]
    rwa [World.size_alloc] at this
  have x0 := bX.cell 0
  have s0 := bS.cell 0
  have s1 := bS.cell 1
  have s2 := bS.cell 2
  have s3 := bS.cell 3
  have s4 := bS.cell 4
  have s5 := bS.cell 5
  obtain ⟨hk, hfit⟩ := may_kind hm
  have hks : (1 ≤ k ∧ k ≤ 4) := hk
  have hnm := Label.fit_small nm hfit
  unfold MakesR
  by_cases k1 : k = 1
  · subst k1
    have e1 : ((1 : Int) == 1) = true := rfl
    have HC := hide (refAsked_any root nm Ar nr cr W0 (hr.on hbW0) (by omega) hok)
    have e : oneC X root ⟨1, nm, v, d, a, b⟩ o = askedC root nm := by unfold oneC; rw [if_pos rfl]
    rw [e]
    unfold MakesR at HC
    generalize askedC root nm = R at *
    clear e hm hk hks hK hX hr ho hfew hok hfit
    go_enter Tryz.func32, Tryz.ntmps32
    go_upto_region 1 with fail
    try rw [← hW0]
    clear hW0
    go_wp2_with (first
      | (go_at_call 57
         refine HC.out.mono ?_
         rintro e w1 ⟨A1, n1, c1, rfl, h1, hb1⟩
         have hbw := hbW0.trans (hb1.mono hbW0.size)))
    go_ret2
    exact ⟨A1, n1, c1, rfl, h1, hbw⟩
  have k1f : (k == 1) = false := beq_eq_false_iff_ne.2 k1
  by_cases k2 : k = 2
  · subst k2
    have e1 : ((2 : Int) == 2) = true := rfl
    have HC := hide (refReleased_any X nm AX nX cX W0 (hK.below hbW0) hX)
    have e : oneC X root ⟨2, nm, v, d, a, b⟩ o = releasedC X nm := by unfold oneC; rw [if_neg (show ¬ (2 : Int) = 1 by decide), if_pos rfl]
    rw [e]
    unfold MakesR at HC
    generalize releasedC X nm = R at *
    clear e hm hk hks hK hX hr ho hfew hok hfit k1
    go_enter Tryz.func32, Tryz.ntmps32
    go_upto_region 1 with fail
    try rw [← hW0]
    clear hW0
    go_wp2_with (first
      | (go_at_call 58
         refine HC.out.mono ?_
         rintro e w1 ⟨A1, n1, c1, rfl, h1, hb1⟩
         have hbw := hbW0.trans (hb1.mono hbW0.size)))
    go_ret2
    exact ⟨A1, n1, c1, rfl, h1, hbw⟩
  have k2f : (k == 2) = false := beq_eq_false_iff_ne.2 k2
  by_cases k3 : k = 3
  · subst k3
    have e1 : ((3 : Int) == 3) = true := rfl
    have HC := hide (refNeeded_any X nm v d AX nX cX W0 (hK.below hbW0) hX)
    have e : oneC X root ⟨3, nm, v, d, a, b⟩ o = neededC X nm v d := by unfold oneC; rw [if_neg (show ¬ (3 : Int) = 1 by decide), if_neg (show ¬ (3 : Int) = 2 by decide), if_pos rfl]
    rw [e]
    unfold MakesR at HC
    generalize neededC X nm v d = R at *
    clear e hm hk hks hK hX hr ho hfew hok hfit k1 k2
    go_enter Tryz.func32, Tryz.ntmps32
    go_upto_region 1 with fail
    try rw [← hW0]
    clear hW0
    go_wp2_with (first
      | (go_at_call 59
         refine HC.out.mono ?_
         rintro e w1 ⟨A1, n1, c1, rfl, h1, hb1⟩
         have hbw := hbW0.trans (hb1.mono hbW0.size)))
    go_ret2
    exact ⟨A1, n1, c1, rfl, h1, hbw⟩
  have k3f : (k == 3) = false := beq_eq_false_iff_ne.2 k3
  have k4 : k = 4 := by omega
  obtain ⟨ha0, ha1, hb0, hb1⟩ := may_joined hm k4
  simp only [] at ha0 ha1 hb0 hb1
  obtain ⟨i, rfl⟩ : ∃ i : Nat, a = (i : Int) := ⟨a.toNat, by omega⟩
  obtain ⟨j, rfl⟩ : ∃ j : Nat, b = (j : Int) := ⟨b.toNat, by omega⟩
  have hi : i < no := by omega
  have hj : j < no := by omega
  have ho0 := ho.on hbW0
  obtain ⟨ad, ca, Aa, na, caa, eA, hbl, hxa, hta, q1⟩ := ho0.at_ hi
  obtain ⟨ad', cb, Ab, nb, cbb, eA', hbl', hxb, htb, q2⟩ := ho0.at_ hj
  obtain rfl : ad = ad' := by rw [eA] at eA'; injection eA'
  subst eA
  obtain ⟨f1, f2, f3⟩ := hfew ca (List.mem_of_getElem? hxa)
  obtain ⟨f4, f5, f6⟩ := hfew cb (List.mem_of_getElem? hxb)
  have e : oneC X root ⟨k, nm, v, d, i, j⟩ o = joinC ca cb nm := by
    unfold oneC
    rw [if_neg k1, if_neg k2, if_neg k3]
    simp only [Int.toNat_natCast]
    rw [hxa, hxb]
    rfl
  rw [e]
  have hla := hta.len
  have hlb := htb.len
  have HC := hide (fun (wx : World) (hx : Below W0.heap.size W0 wx) => refJoinR_any ca cb nm Aa Ab na caa nb cbb wx (hta.on hx) (htb.on hx) f1 f4 (by omega) (by omega))
  unfold MakesR at HC
  have HS := hide (fun (wx : World) (hx : Below W0.heap.size W0 wx) => (show wx.cell? ⟨w.heap.size + 1, 1, none⟩ = some (.string nm) ∧ wx.cell? ⟨w.heap.size + 1, 4, none⟩ = some (.int .i64 (i : Int)) ∧ wx.cell? ⟨w.heap.size + 1, 5, none⟩ = some (.int .i64 (j : Int)) ∧ wx.cell? (ad.add i) = some (.slice Aa na caa) ∧ wx.cell? (ad.add j) = some (.slice Ab nb cbb) from
    ⟨((bS.below hx bS.lt).cell 1), ((bS.below hx bS.lt).cell 4), ((bS.below hx bS.lt).cell 5), (hx.cell (p := ad.add i) (by rw [block_of_add]; exact hbl)).trans q1, (hx.cell (p := ad.add j) (by rw [block_of_add]; exact hbl)).trans q2⟩))
  have hi1 : (0 : Int) ≤ (i : Int) := by omega
  have hi2 : (i : Int) < (no : Int) := by omega
  have hj1 : (0 : Int) ≤ (j : Int) := by omega
  have hj2 : (j : Int) < (no : Int) := by omega
  have kd0 : Below W0.heap.size W0 W0.drew := (Below.refl _ _).drew
  generalize joinC ca cb nm = R at *
  clear e hm hk hks hK hX hr ho hfew hok hfit k1 k2 k3 k4 hxa hxb hta htb f1 f2 f3 f4 f5 f6 ha0 ha1 hb0 hb1 ho0 hla hlb q1 q2 bX
  go_enter Tryz.func32, Tryz.ntmps32
  go_upto_region 1 with fail
  try rw [← hW0]
  clear hW0
  go_upto_region 7 with fail
  go_region_held3 (fun w' => w'.cell? ⟨w.heap.size + 1, 1, none⟩ = some (.string nm) ∧ w'.cell? ⟨w.heap.size + 1, 4, none⟩ = some (.int .i64 (i : Int)) ∧ w'.cell? ⟨w.heap.size + 1, 5, none⟩ = some (.int .i64 (j : Int)) ∧ w'.cell? (ad.add i) = some (.slice Aa na caa) ∧ w'.cell? (ad.add j) = some (.slice Ab nb cbb)) (first | exact HS.out _ hk1 | exact HS.out _ kd0 | go_keep)
    (first
      | (go_at_call 60
         refine (HC.out _ kd0).mono ?_
         rintro e w1 ⟨A1, n1, c1, rfl, h1, hb1⟩
         have hk1 : Below W0.heap.size W0 w1 := kd0.trans hb1))
  all_goals
    go_wp2
    go_ret2
    exact ⟨A1, n1, c1, rfl, h1, hbW0.trans (hk1.mono hbW0.size)⟩
theorem clash_step {X : List Kn} {root : List Nd} {l : List Sp} {o : List (List Tm)} {i : Nat} {s : Sp} (h : l[i]? = some s) : clashC X root (l.drop i) o = match oneC X root s o with | some c => clashC X root (l.drop (i + 1)) (o ++ [c]) | none => o := by
  obtain ⟨hi, e⟩ := List.getElem?_eq_some_iff.1 h
  rw [List.drop_eq_getElem_cons hi, e, clashC]
  all_goals (cases oneC X root s o <;> rfl)
set_option maxHeartbeats 8000000 in
set_option maxRecDepth 100000 in
theorem refClashes_any (X : List Kn) (root : List Nd) (l : List Sp) (AX Ar Al : Option Addr) (nX cX nr cr n c : Nat) (w : World) (hK : InK w AX nX X) (hX : OkX X) (h8 : EightX X) (hr : NdOn w Ar nr root) (hnr : nr ≤ 40) (hok : okS root = true) (h : PfOn w Al n l) (hm : OkSteps l) (hn : n ≤ 120) :
    Calls Tryz.prog 16 #[.agg #[.slice AX nX cX], .slice Ar nr cr, .slice Al n c] w fun e w' => ∃ A' n' c', e = .returned (.slice A' n' c') ∧ n' ≤ c' ∧ FcOn w' A' n' (clashC X root l []) ∧ Below w.heap.size w w' := by
  obtain ⟨i0, hi0, hz0, hz1, hz2⟩ := info_parts info_terms
  obtain ⟨W0, hW0⟩ : ∃ W0, W0 = w.alloc (.cells #[.slice AX nX cX] 33) := ⟨_, rfl⟩
  have hbW0 : Below w.heap.size w W0 := by rw [hW0]; exact Proof.alloc_b _ _
  have bX : Blk W0 w.heap.size 33 #[.slice AX nX cX] := by rw [hW0]; exact Blk.new w _ _
  have hlen := h.len
  have Hlen := hide hlen
  have hmay : ∀ s ∈ l, ∃ i, mayS s i = true := fun s hs => by
    obtain ⟨i, hi, e⟩ := List.mem_iff_getElem.1 hs
    exact ⟨i, hm i s (by rw [← e]; simp)⟩
  have Hstep := hide (fun (i : Nat) (s : Sp) (o : List (List Tm)) (hs : l[i]? = some s) => clash_step (X := X) (root := root) (o := o) hs)
  have Hone := hide (fun (i : Nat) (s : Sp) (hs : l[i]? = some s) (o : List (List Tm)) (ho : ∀ d ∈ o, InvC (prsS X root l) (nmsS X root l) d) (c : List Tm) (hc : oneC X root s o = some c) => inv_one hX h8 hok (List.mem_of_getElem? hs) (hm i s hs) ho hc)
  have Hfew := hide (fun (o : List (List Tm)) (ho : ∀ d ∈ o, InvC (prsS X root l) (nmsS X root l) d) => (show ∀ d ∈ o, FewC d from fun d hd => ⟨fun t ht => ((ho d hd).1.2 t ht).1, inv_fine hX h8 hok hmay (by omega) (ho d hd)⟩))
  have HK := hide (fun (wx : World) (hx : Below W0.heap.size W0 wx) => (show InK wx AX nX X ∧ NdOn wx Ar nr root from ⟨hK.below (hbW0.trans (hx.mono hbW0.size)), hr.on (hbW0.trans (hx.mono hbW0.size))⟩))
  have HO := hide (fun (i : Nat) (k : Int) (nm : ByteArray) (v : Int) (d : ByteArray) (a b : Int) (hs : l[i]? = some ⟨k, nm, v, d, a, b⟩) (o : List (List Tm)) (Ao : Option Addr) (co : Nat) (wx : World) (hx : Below W0.heap.size W0 wx) (ho : FcR wx Ao i o) (hi : i ≤ 1000000) (hf : ∀ c ∈ o, FewC c) =>
    refOne_any X root k nm v d a b o AX Ar Ao nX cX nr cr i co wx (HK.out wx hx).1 hX (HK.out wx hx).2 hnr hok ho hi (hm i _ hs) hf)
  unfold MakesR at HO
  have HX := hide (fun (wx : World) (hx : Below W0.heap.size W0 wx) => (show wx.cell? ⟨w.heap.size, 0, none⟩ = some (.slice AX nX cX) from (bX.below hx bX.lt).cell 0))
  have HP := hide (fun (wx : World) (hx : Below W0.heap.size W0 wx) (i : Nat) (hi : i < n) => PfIn.at_ (PfIn.below h (hbW0.trans (hx.mono hbW0.size))) hi)
  have x0 := bX.cell 0
  obtain ⟨F, hF⟩ : ∃ F, F = clashC X root l [] := ⟨_, rfl⟩
  rw [← hF]
  have HF : Hid (clashC X root (l.drop 0) [] = F) := hide hF.symm
  have Hend : Hid (∀ o, clashC X root (l.drop n) o = o) := hide (fun o => by rw [List.drop_of_length_le (by omega)]; rfl)
  clear hF hK hX h8 hr hok h hm hmay hlen
  go_enter Tryz.func16, Tryz.ntmps16
  go_upto_region 1 with fail
  try rw [← hW0]
  clear hW0
  go_wp2
  go_loopw [7, 8] (fun u p wr => ∃ (i : Nat) (vs : List Value) (o : List (List Tm)), i ≤ n ∧ p = .int .i64 (i : Int) ∧ Fcs wr W0.heap.size u i vs o ∧ Hid (clashC X root (l.drop i) o = F) ∧ Hid (∀ d ∈ o, InvC (prsS X root l) (nmsS X root l) d) ∧ Below W0.heap.size W0 wr) (fun _ p _ => n - (RowKit.intOf p).toNat)
  case atStart => exact ⟨0, [], [], by omega, rfl, Fcs.nil_ _ _, HF, hide (fun d hd => by cases hd), Below.refl _ _⟩
  case round =>
    obtain ⟨i, vs, o, hi, rfl, hFc, hff, hinv, hb⟩ := hrel
    clear HF x0
    have hbs := hb.size
    obtain ⟨Ao, co, rfl, hco, hfr⟩ := hFc.toldR
    by_cases hlt : i < n
    · obtain ⟨ad, q, rfl, hbl, hx, p0, p1, p2, p3, p4, p5⟩ := HP.out wr hb i hlt
      obtain ⟨k, nm, v, d, a, b⟩ := q
      simp only [] at p0 p1 p2 p3 p4 p5
      have hst := Hstep.out i _ o hx
      rw [hff.out] at hst
      have Hi1 := hide (Hone.out i _ hx o hinv.out)
      have HOi := hide (fun (wx : World) (hbx : Below wr.heap.size wr wx) => HO.out i k nm v d a b hx o Ao co wx (hb.trans (hbx.mono hbs)) (hfr.on hbx) (by omega) (Hfew.out o hinv.out))
      have HC := hide (fun (wx : World) (hbx : Below wr.heap.size wr wx) => (show wx.cell? ⟨w.heap.size, 0, none⟩ = some (.slice AX nX cX) ∧ wx.cell? (ad.add (i * 6)) = some (.int .i64 k) ∧ wx.cell? ⟨(ad.add (i * 6)).block, (ad.add (i * 6)).off + 1, none⟩ = some (.string nm) ∧ wx.cell? ⟨(ad.add (i * 6)).block, (ad.add (i * 6)).off + 2, none⟩ = some (.int .i64 v) ∧ wx.cell? ⟨(ad.add (i * 6)).block, (ad.add (i * 6)).off + 3, none⟩ = some (.string d) ∧ wx.cell? ⟨(ad.add (i * 6)).block, (ad.add (i * 6)).off + 4, none⟩ = some (.int .i64 a) ∧ wx.cell? ⟨(ad.add (i * 6)).block, (ad.add (i * 6)).off + 5, none⟩ = some (.int .i64 b) from by
        have hab : (ad.add (i * 6)).block < wr.heap.size := by rw [block_of_add]; have := hbW0.size; omega
        exact ⟨HX.out wx (hb.trans (hbx.mono hbs)), (hbx.cell (p := ad.add (i * 6)) hab).trans p0, (hbx.cell (p := ⟨(ad.add (i * 6)).block, _, none⟩) hab).trans p1, (hbx.cell (p := ⟨(ad.add (i * 6)).block, _, none⟩) hab).trans p2, (hbx.cell (p := ⟨(ad.add (i * 6)).block, _, none⟩) hab).trans p3, (hbx.cell (p := ⟨(ad.add (i * 6)).block, _, none⟩) hab).trans p4, (hbx.cell (p := ⟨(ad.add (i * 6)).block, _, none⟩) hab).trans p5⟩))
      have hi1 : (0 : Int) ≤ (i : Int) := by omega
      have hi2 : (i : Int) < (n : Int) := by omega
      have kd0 : Below wr.heap.size wr wr.drew := (Below.refl _ _).drew
      have HInv := hide hinv.out
      clear p0 p1 p2 p3 p4 p5 hx hff hinv
      generalize oneC X root ⟨k, nm, v, d, a, b⟩ o = R at *
      go_upto_region 5 with fail
      go_region_held3 (fun w' => w'.cell? ⟨w.heap.size, 0, none⟩ = some (.slice AX nX cX) ∧ w'.cell? (ad.add (i * 6)) = some (.int .i64 k) ∧ w'.cell? ⟨(ad.add (i * 6)).block, (ad.add (i * 6)).off + 1, none⟩ = some (.string nm) ∧ w'.cell? ⟨(ad.add (i * 6)).block, (ad.add (i * 6)).off + 2, none⟩ = some (.int .i64 v) ∧ w'.cell? ⟨(ad.add (i * 6)).block, (ad.add (i * 6)).off + 3, none⟩ = some (.string d) ∧ w'.cell? ⟨(ad.add (i * 6)).block, (ad.add (i * 6)).off + 4, none⟩ = some (.int .i64 a) ∧ w'.cell? ⟨(ad.add (i * 6)).block, (ad.add (i * 6)).off + 5, none⟩ = some (.int .i64 b)) (first | exact HC.out _ hk1 | exact HC.out _ kd0 | go_keep)
        (first
          | (go_at_call 32
             refine (HOi.out _ kd0).mono ?_
             rintro e w1 ⟨A1, n1, c1, rfl, h1, hb1⟩
             have hk1 : Below wr.heap.size wr w1 := kd0.trans hb1))
      all_goals
        have hbw1 := hb.trans (hk1.mono hbs)
        have hFc1 := hFc.below hk1
        cases R with
        | none =>
          have e : Hid (o = F) := hide hst.symm
          have hfr1 := hfr.on hk1
          clear hst Hi1
          go_wp2
          go_ret
          exact ⟨_, _, _, rfl, hco, by rw [← e.out]; exact hfr1.fc, hbW0.trans (hbw1.mono hbW0.size)⟩
        | some cc =>
          have e : Hid (clashC X root (l.drop (i + 1)) (o ++ [cc]) = F) := hide hst.symm
          have Hin2 : Hid (∀ d ∈ o ++ [cc], InvC (prsS X root l) (nmsS X root l) d) := hide (fun d hd => by
            rcases List.mem_append.1 hd with hd | hd
            · exact HInv.out d hd
            · rw [List.mem_singleton.1 hd]; exact Hi1.out cc rfl)
          have hbw1s := hbw1.size
          clear hst Hi1 HOi HC hFc hfr
          go_wp2_with (first
            | (at_builtin
               refine wpList_append_any _ rfl (.tmp 31) (.tmp 33) _ rfl W0.heap.size 41 i0 _ 1 24 Tryz.underlying37 hi0 hz0 hz1 hz2 rfl (by omega) _ i vs rfl
                 (own_below hFc1.1 (Proof.alloc_b _ _)) _ _ 1 _ _ rfl (Reads.new1 _ _ _) (one_sliceJ _ _ _) (by unfold maxLen; omega) (by omega) (by simp; omega) ?_
               intro v3 w3 hown3 hg3 hat3
               have hA3 := Proof.alloc_b w1 (.cells #[.slice A1 n1 c1] 41)
               have hF3 := (hFc1.below hA3).cat (AllF.one (k := c1) (h1.on hA3)) hown3 hg3
               have hb3 : Below W0.heap.size W0 w3 := (hbw1.trans (hA3.mono hbw1s)).grown hg3 (by simp; omega) (fun kb hkb => (hFc1.1.lt kb hkb).1)))
          go_roundw
          case rel => exact ⟨i + 1, _, _, by omega, by go_num, hF3, e, Hin2, hb3⟩
          case measure => simp [RowKit.intOf]; omega
    · have hi2 : i = n := by omega
      have e : Hid (o = F) := hide (by rw [← hff.out, hi2, Hend.out])
      clear HP HO Hstep Hone Hfew HK hff hinv hi2
      go_wp2
      go_ret
      exact ⟨_, _, _, rfl, hco, by rw [← e.out]; exact hfr.fc, hbW0.trans (hb.mono hbW0.size)⟩
end Go.Proofs.YtdmejcfnolhplaaGreat.Judge
/-
  How long facts are. No program but as a name of what may be walked.
-/
namespace Go.Proofs.YtdmejcfnolhplaaGreat.Fact
open Go Go.RowKit Go.Lib Go.Proofs.YtdmejcfnolhplaaGreat.Label Go.Proofs.YtdmejcfnolhplaaGreat.Span Go.Proofs.YtdmejcfnolhplaaGreat.Need Go.Proofs.YtdmejcfnolhplaaGreat.Mani Go.Proofs.YtdmejcfnolhplaaGreat.Wire Go.Proofs.YtdmejcfnolhplaaGreat.Depot Go.Proofs.YtdmejcfnolhplaaGreat.Index Go.Proofs.YtdmejcfnolhplaaGreat.Reach Go.Proofs.YtdmejcfnolhplaaGreat.Pick Go.Proofs.YtdmejcfnolhplaaGreat.Fit Go.Proofs.YtdmejcfnolhplaaGreat.Term Go.Proofs.YtdmejcfnolhplaaGreat.Clash
set_option linter.unusedVariables false
def FinC (c : List Tm) : Prop := ShortT c ∧ c.length ≤ 1000 ∧ ∀ t ∈ c, isSet (-1) t.set = true
theorem FinC.nil : FinC [] := ⟨(fun t ht => by cases ht), by simp, (fun t ht => by cases ht)⟩
theorem sameC_yes (L : List Tm) (A A' : Option Addr) (n c n' c' : Nat) (w : World) (h : TmOn w A n L) (h' : TmOn w A' n' L) (hL : FinC L) :
    Calls Tryz.prog 18 #[.slice A n c, .slice A' n' c'] w fun e w' => e = .returned (.bool true) ∧ Below w.heap.size w w' := by
  have := refSameC_any L L A A' n c n' c' w h h' hL.1 hL.1 (by have := TmIn.len h; have := hL.2.1; omega)
  rw [decide_eq_true rfl] at this
  exact this
end Go.Proofs.YtdmejcfnolhplaaGreat.Fact
