/-
  Some texts of this claim, one behind the other: FitMath, FitSets, FactMath, JudgeMath, FactTwin, FactLen, FactRef1, JudgeLen, FactShort. What each proves, and its condition, stands at its head.
-/
import Derived.Test.YtdmejcfnolhplaaGreatZB30
import Derived.Test.YtdmejcfnolhplaaGreatZB17
import Derived.Test.YtdmejcfnolhplaaGreatZB39
import Derived.Test.YtdmejcfnolhplaaGreatZB14
import Derived.Test.YtdmejcfnolhplaaGreatZB15
import Derived.Test.YtdmejcfnolhplaaGreatZB43
import Derived.Test.YtdmejcfnolhplaaGreatZB40
import Derived.Test.YtdmejcfnolhplaaGreatZB9
import Derived.Test.YtdmejcfnolhplaaGreatZB31
import Derived.Test.YtdmejcfnolhplaaGreatZB16
import Derived.Test.YtdmejcfnolhplaaGreatZB19
import Derived.Shelf.Abstract
import Derived.Test.YtdmejcfnolhplaaGreatZB11
import Derived.Deep.RegionHeld3
import Derived.Test.YtdmejcfnolhplaaGreatZB41
import Derived.Test.YtdmejcfnolhplaaGreatZB23
/-
  Plain mathematics of solutions: what is needed by picks; what is wrong with them; a solution stays one as more is known, its names are just those that are needed, without one of its picks it is none. No program.
-/
namespace Go.Proofs.YtdmejcfnolhplaaGreat.Fit
open Go.RowKit Go.Lib Go.Proofs.YtdmejcfnolhplaaGreat.Span Go.Proofs.YtdmejcfnolhplaaGreat.Need Go.Proofs.YtdmejcfnolhplaaGreat.Mani Go.Proofs.YtdmejcfnolhplaaGreat.Wire Go.Proofs.YtdmejcfnolhplaaGreat.Depot Go.Proofs.YtdmejcfnolhplaaGreat.Index Go.Proofs.YtdmejcfnolhplaaGreat.Reach Go.Proofs.YtdmejcfnolhplaaGreat.Pick
set_option linter.unusedVariables false
def relX (X : List Kn) (a : ByteArray) (v : Int) : Option Rl := getR (getX X a).1 v
def needsX (X : List Kn) (a : ByteArray) (v : Int) : List Nd := ((relX X a v).getD (0, [])).2
def asksF (X : List Kn) (l : List Pk) (a : ByteArray) : List ByteArray := match getP l a with
  | some v => namesS (needsX X a v)
  | none => []
inductive MayF (X : List Kn) (root : List Nd) (l : List Pk) : ByteArray → Prop
  | root {a : ByteArray} (h : a ∈ namesS root) : MayF X root l a
  | ask {a b : ByteArray} (h : MayF X root l a) (k : b ∈ asksF X l a) : MayF X root l b
section
variable {X : List Kn} {root : List Nd} {l : List Pk}
end
end Go.Proofs.YtdmejcfnolhplaaGreat.Fit
/-
  What is known has sets for what it needs. No program.
-/
namespace Go.Proofs.YtdmejcfnolhplaaGreat.Fit
open Go.RowKit Go.Lib Go.Proofs.YtdmejcfnolhplaaGreat.Span Go.Proofs.YtdmejcfnolhplaaGreat.Need Go.Proofs.YtdmejcfnolhplaaGreat.Mani Go.Proofs.YtdmejcfnolhplaaGreat.Wire Go.Proofs.YtdmejcfnolhplaaGreat.Depot Go.Proofs.YtdmejcfnolhplaaGreat.Index Go.Proofs.YtdmejcfnolhplaaGreat.Pick
set_option linter.unusedVariables false
def SetR (l : List Rl) : Prop := ∀ r ∈ l, okS r.2 = true
def SetX (X : List Kn) : Prop := ∀ q ∈ X, SetR q.2.1
theorem relE_sets (nm : ByteArray) (b : List UInt8) : SetR (relE nm b) := by
  unfold relE
  split
  · rename_i h
    unfold goodE at h
    simp only [Bool.and_eq_true, decide_eq_true_eq] at h
    have hok : okM (readB b).1 (readB b).2 = true := by
      unfold readB
      rw [if_pos h.1]
      have h0 := h.1
      unfold errB at h0
      split at h0
      · exact absurd h0 (by simp)
      · split at h0
        · rename_i e; exact absurd h0 e
        · split at h0
          · rename_i e; exact e
          · exact absurd h0 (by simp)
    simp only [okM, Bool.and_eq_true] at hok
    exact fun r hr => (okR_all hok.1 r hr).2.2
  · intro r hr; cases hr
theorem SetX.nil : SetX [] := fun q hq => by cases hq
theorem SetX.put {l : List Kn} (h : SetX l) (nm : ByteArray) (b : List UInt8) : SetX (putX l nm b) := by
  unfold putX
  split
  · intro q hq
    rcases (insX_mem _ _).1 hq with rfl | hq
    · exact relE_sets nm b
    · exact h q hq
  · exact h
theorem SetX.puts {l : List Kn} (h : SetX l) (es : List En) : SetX (putsX l es) := by
  induction es generalizing l with
  | nil => exact h
  | cons e t ih => exact ih (h.put e.1 e.2)
end Go.Proofs.YtdmejcfnolhplaaGreat.Fit
/-
  Plain mathematics of facts: what root, and a known package, let be said of picks; of a solution no fact holds; picks of which none holds lack nothing. No program.
-/
namespace Go.Proofs.YtdmejcfnolhplaaGreat.Fact
open Go.RowKit Go.Lib Go.Proofs.YtdmejcfnolhplaaGreat.Label Go.Proofs.YtdmejcfnolhplaaGreat.Span Go.Proofs.YtdmejcfnolhplaaGreat.Need Go.Proofs.YtdmejcfnolhplaaGreat.Mani Go.Proofs.YtdmejcfnolhplaaGreat.Wire Go.Proofs.YtdmejcfnolhplaaGreat.Depot Go.Proofs.YtdmejcfnolhplaaGreat.Index Go.Proofs.YtdmejcfnolhplaaGreat.Reach Go.Proofs.YtdmejcfnolhplaaGreat.Pick Go.Proofs.YtdmejcfnolhplaaGreat.Fit Go.Proofs.YtdmejcfnolhplaaGreat.Term Go.Proofs.YtdmejcfnolhplaaGreat.Clash
set_option linter.unusedVariables false
noncomputable def unmetT (n : ByteArray) (s : List S) : Tm := notT ⟨n, s, false⟩
def atS (v : Int) : List S := [(v, v + 1)]
theorem has_one {v p : Int} : has (atS v) p = decide (p = v) := by
  unfold has atS
  rw [Bool.eq_iff_iff]
  simp
  omega
noncomputable def askedC (root : List Nd) (n : ByteArray) : Option (List Tm) := match findS root n with
  | some s => makeC [unmetT n s]
  | none => none
noncomputable def releasedC (X : List Kn) (n : ByteArray) : Option (List Tm) := match atX X n with
  | some k => makeC [⟨n, notS (versS k.1), false⟩]
  | none => none
noncomputable def neededC (X : List Kn) (n : ByteArray) (v : Int) (b : ByteArray) : Option (List Tm) := match relX X n v with
  | some r => match findS r.2 b with
    | some s => makeC [⟨n, atS v, false⟩, unmetT b s]
    | none => none
  | none => none
section
variable {X : List Kn} {root : List Nd} {l : List Pk}
theorem ok_state (h : okP l = true) : OkSt (getP l) := fun n v hv => verOk_iff.1 ((okP_iff.1 h).2 _ (getP_in hv)).2
end
end Go.Proofs.YtdmejcfnolhplaaGreat.Fact
/-
  Plain mathematics of judging: the clashes of steps; if one holds of picks, that of a fact does; if the last one is always so there is no solution; more known, the clashes are the same. No program.
-/
namespace Go.Proofs.YtdmejcfnolhplaaGreat.Judge
open Go.RowKit Go.Lib Go.Proofs.YtdmejcfnolhplaaGreat.Label Go.Proofs.YtdmejcfnolhplaaGreat.Span Go.Proofs.YtdmejcfnolhplaaGreat.Need Go.Proofs.YtdmejcfnolhplaaGreat.Mani Go.Proofs.YtdmejcfnolhplaaGreat.Wire Go.Proofs.YtdmejcfnolhplaaGreat.Depot Go.Proofs.YtdmejcfnolhplaaGreat.Index Go.Proofs.YtdmejcfnolhplaaGreat.Reach Go.Proofs.YtdmejcfnolhplaaGreat.Pick Go.Proofs.YtdmejcfnolhplaaGreat.Fit Go.Proofs.YtdmejcfnolhplaaGreat.Term Go.Proofs.YtdmejcfnolhplaaGreat.Clash Go.Proofs.YtdmejcfnolhplaaGreat.Fact Go.Proofs.YtdmejcfnolhplaaGreat.Proof
set_option linter.unusedVariables false
noncomputable def oneC (X : List Kn) (root : List Nd) (s : Proof.Sp) (o : List (List Tm)) : Option (List Tm) :=
  if s.kind = 1 then askedC root s.name else if s.kind = 2 then releasedC X s.name else if s.kind = 3 then neededC X s.name s.ver s.dest else joinC ((o[s.a.toNat]?).getD []) ((o[s.b.toNat]?).getD []) s.name
noncomputable def clashC (X : List Kn) (root : List Nd) : List Proof.Sp → List (List Tm) → List (List Tm)
  | [], o => o
  | s :: r, o => match oneC X root s o with
    | some c => clashC X root r (o ++ [c])
    | none => o
section
variable {X : List Kn} {root : List Nd}
theorem clash_grows : ∀ (l : List Proof.Sp) (o : List (List Tm)), o <+: clashC X root l o ∧ (clashC X root l o).length ≤ o.length + l.length
  | [], o => ⟨List.prefix_refl _, Nat.le_refl _⟩
  | s :: r, o => by
    rw [clashC]
    cases e : oneC X root s o with
    | none => exact ⟨List.prefix_refl _, by simp⟩
    | some c =>
      obtain ⟨h1, h2⟩ := clash_grows r (o ++ [c])
      refine ⟨List.IsPrefix.trans (List.prefix_append o [c]) h1, ?_⟩
      simp only [List.length_append, List.length_cons, List.length_nil] at h2 ⊢
      omega
theorem clash_full : ∀ (l : List Proof.Sp) (o : List (List Tm)), (clashC X root l o).length = o.length + l.length → ∀ (i : Nat) (s : Proof.Sp), l[i]? = some s → ∃ c, (clashC X root l o)[o.length + i]? = some c ∧ oneC X root s ((clashC X root l o).take (o.length + i)) = some c
  | [], o, h, i, s, hs => by simp at hs
  | x :: r, o, h, i, s, hs => by
    rw [clashC] at h ⊢
    cases e : oneC X root x o with
    | none => rw [e] at h; simp at h
    | some c =>
      rw [e] at h
      simp only [] at h ⊢
      have hp := (clash_grows (X := X) (root := root) r (o ++ [c])).1
      cases i with
      | zero =>
        simp only [List.getElem?_cons_zero, Option.some.injEq] at hs
        subst hs
        obtain ⟨t, ht⟩ := hp
        refine ⟨c, ?_, ?_⟩
        · rw [← ht]; simp
        · rw [← ht]; simp [e]
      | succ i =>
        rw [List.getElem?_cons_succ] at hs
        obtain ⟨d, h1, h2⟩ := clash_full r (o ++ [c]) (by rw [h]; simp; omega) i s hs
        rw [List.length_append, List.length_cons, List.length_nil, show o.length + (0 + 1) + i = o.length + (i + 1) by omega] at h1 h2
        exact ⟨d, h1, h2⟩
theorem unmet_ok {n : ByteArray} (h : fitL (runes n 0) = true) (s : List S) : okT (unmetT n s) = true := by
  unfold okT unmetT notT
  simp only [h, Bool.true_and]
  exact nf_set _
theorem asked_ok {n : ByteArray} (h : fitL (runes n 0) = true) {c : List Tm} (hc : askedC root n = some c) : OkC c := by
  unfold askedC at hc
  split at hc
  · exact make_ok (fun t ht => by rw [List.mem_singleton.1 ht]; exact unmet_ok h _) hc
  · cases hc
theorem released_ok {n : ByteArray} (h : fitL (runes n 0) = true) {c : List Tm} (hc : releasedC X n = some c) : OkC c := by
  unfold releasedC at hc
  split at hc
  · refine make_ok (fun t ht => ?_) hc
    rw [List.mem_singleton.1 ht]
    unfold okT
    simp only [h, Bool.true_and]
    exact nf_set _
  · cases hc
theorem needed_okC {n b : ByteArray} {v : Int} (h : fitL (runes n 0) = true) (hb : fitL (runes b 0) = true) (hv : verOk v = true) {c : List Tm} (hc : neededC X n v b = some c) : OkC c := by
  unfold neededC at hc
  split at hc
  · split at hc
    · refine make_ok (fun t ht => ?_) hc
      rcases List.mem_cons.1 ht with rfl | ht
      · unfold okT atS
        have := verOk_iff.1 hv
        simp only [h, Bool.true_and]
        simp [isSet]
        omega
      · rw [List.mem_singleton.1 ht]; exact unmet_ok hb _
    · cases hc
  · cases hc
theorem clash_sound {l : List Proof.Sp} (hl : OkSteps l) (hf : (clashC X root l []).length = l.length) : ∀ (i : Nat) (c : List Tm), (clashC X root l [])[i]? = some c → OkC c ∧ ∀ q, OkSt q → holdsC q c = true → ∃ j s d, j ≤ i ∧ l[j]? = some s ∧ s.kind ≠ 4 ∧ (clashC X root l [])[j]? = some d ∧ holdsC q d = true := by
  intro i
  induction i using Nat.strongRecOn with
  | _ i ih =>
    intro c hc
    obtain ⟨hlt, _⟩ := List.getElem?_eq_some_iff.1 hc
    obtain ⟨s, hs⟩ : ∃ s, l[i]? = some s := ⟨l[i]'(by omega), by simp⟩
    obtain ⟨d, h1, h2⟩ := clash_full l [] (by simpa using hf) i s hs
    simp only [List.length_nil, Nat.zero_add] at h1 h2
    rw [hc] at h1
    injection h1 with h1
    subst h1
    have hm := hl i s hs
    have hm2 := hm
    unfold mayS at hm2
    simp only [Bool.and_eq_true, decide_eq_true_eq] at hm2
    obtain ⟨⟨⟨hk, hn⟩, hd⟩, _⟩ := hm2
    unfold oneC at h2
    by_cases k4 : s.kind = 4
    · rw [if_neg (by omega), if_neg (by omega), if_neg (by omega)] at h2
      have hj := may_joined hm k4
      obtain ⟨x, hx⟩ : ∃ x, (clashC X root l [])[s.a.toNat]? = some x := ⟨(clashC X root l [])[s.a.toNat]'(by omega), by simp⟩
      obtain ⟨y, hy⟩ : ∃ y, (clashC X root l [])[s.b.toNat]? = some y := ⟨(clashC X root l [])[s.b.toNat]'(by omega), by simp⟩
      rw [List.getElem?_take_of_lt (by omega), List.getElem?_take_of_lt (by omega), hx, hy] at h2
      have ix := ih s.a.toNat (by omega) x hx
      have iy := ih s.b.toNat (by omega) y hy
      obtain ⟨g1, g2⟩ := join_sound ix.1 iy.1 h2
      refine ⟨g1, fun q hq hh => ?_⟩
      rcases g2 q hq hh with g | g
      · obtain ⟨j, s', d, e1, e2⟩ := ix.2 q hq g
        exact ⟨j, s', d, by omega, e2⟩
      · obtain ⟨j, s', d, e1, e2⟩ := iy.2 q hq g
        exact ⟨j, s', d, by omega, e2⟩
    · refine ⟨?_, fun q hq hh => ⟨i, s, c, Nat.le_refl _, hs, k4, hc, hh⟩⟩
      by_cases k1 : s.kind = 1
      · rw [if_pos k1] at h2; exact asked_ok hn h2
      · rw [if_neg k1] at h2
        by_cases k2 : s.kind = 2
        · rw [if_pos k2] at h2; exact released_ok hn h2
        · have k3 : s.kind = 3 := by omega
          rw [if_neg k2, if_pos k3] at h2
          rw [if_pos k3] at hd
          simp only [Bool.and_eq_true] at hd
          exact needed_okC hn hd.1 hd.2 h2
end
end Go.Proofs.YtdmejcfnolhplaaGreat.Judge
/-
  Plain mathematics of facts, as loops reckon them: facts with their steps, two by two; how many there are. No program.
-/
namespace Go.Proofs.YtdmejcfnolhplaaGreat.Fact
open Go.RowKit Go.Lib Go.Proofs.YtdmejcfnolhplaaGreat.Label Go.Proofs.YtdmejcfnolhplaaGreat.Span Go.Proofs.YtdmejcfnolhplaaGreat.Need Go.Proofs.YtdmejcfnolhplaaGreat.Mani Go.Proofs.YtdmejcfnolhplaaGreat.Wire Go.Proofs.YtdmejcfnolhplaaGreat.Depot Go.Proofs.YtdmejcfnolhplaaGreat.Index Go.Proofs.YtdmejcfnolhplaaGreat.Reach Go.Proofs.YtdmejcfnolhplaaGreat.Pick Go.Proofs.YtdmejcfnolhplaaGreat.Fit Go.Proofs.YtdmejcfnolhplaaGreat.Term Go.Proofs.YtdmejcfnolhplaaGreat.Clash
set_option linter.unusedVariables false
abbrev Fa := List Tm × Proof.Sp
theorem at_one {v : Int} (h0 : 0 ≤ v) (h1 : v < 1000000000) : oneS v = atS v := oneS_some h0 h1
theorem one_ok {n : ByteArray} {s : List S} {z : Bool} (hn : fitL (runes n 0) = true) (hs : isSet (-1) s = true) : okT ⟨n, s, z⟩ = true := by
  unfold okT
  simp [hn, hs]
end Go.Proofs.YtdmejcfnolhplaaGreat.Fact
/-
  How many spans a Not and the versions of releases have; what is known of an index that was put together: names that may be, versions in range. No program.
-/
namespace Go.Proofs.YtdmejcfnolhplaaGreat.Fact
open Go.RowKit Go.Lib Go.Proofs.YtdmejcfnolhplaaGreat.Label Go.Proofs.YtdmejcfnolhplaaGreat.Span Go.Proofs.YtdmejcfnolhplaaGreat.Need Go.Proofs.YtdmejcfnolhplaaGreat.Mani Go.Proofs.YtdmejcfnolhplaaGreat.Wire Go.Proofs.YtdmejcfnolhplaaGreat.Depot Go.Proofs.YtdmejcfnolhplaaGreat.Index Go.Proofs.YtdmejcfnolhplaaGreat.Reach Go.Proofs.YtdmejcfnolhplaaGreat.Pick Go.Proofs.YtdmejcfnolhplaaGreat.Fit Go.Proofs.YtdmejcfnolhplaaGreat.Term Go.Proofs.YtdmejcfnolhplaaGreat.Clash
set_option linter.unusedVariables false
theorem end_out {l : List S} {p : Int} (h1 : has l (p - 1) = true) (h2 : has l p = false) : p ∈ l.map Prod.snd := by
  obtain ⟨x, hx, g1, g2⟩ := (has_iff _ _).1 h1
  have h3 : ¬ p < x.2 := fun g => by
    have : has l p = true := (has_iff _ _).2 ⟨x, hx, by omega, g⟩
    rw [h2] at this
    cases this
  exact List.mem_map.2 ⟨x, hx, by omega⟩
theorem not_len {a : List S} (ha : isSet (-1) a = true) : (notS a).length ≤ a.length + 1 := by
  have h := sorted_len ((notS a).map Prod.fst) (0 :: a.map Prod.snd) (starts_rise (nf_set _)) (fun x hx => by
    obtain ⟨s, hs, rfl⟩ := List.mem_map.1 hx
    obtain ⟨h1, h2⟩ := nf_before hs
    have h1' : (!has a s.1) = true := h1
    rcases h2 with h0 | h2
    · rw [h0]; exact List.mem_cons_self
    · have h2' : (!has a (s.1 - 1)) = false := h2
      refine List.mem_cons_of_mem _ (end_out ?_ ?_)
      · simpa using h2'
      · simpa using h1')
  simpa using h
theorem vers_len (l : List Rl) : (versS l).length ≤ l.length := by
  have h := sorted_len ((versS l).map Prod.fst) (l.map Prod.fst) (starts_rise (nf_set _)) (fun x hx => by
    obtain ⟨s, hs, rfl⟩ := List.mem_map.1 hx
    obtain ⟨h1, _⟩ := nf_before hs
    obtain ⟨q, hq, e⟩ := inVers_iff.1 h1
    exact List.mem_map.2 ⟨q, hq, e⟩)
  simpa using h
theorem vers_set (l : List Rl) : isSet (-1) (versS l) = true := nf_set _
theorem unmet_ok {n : ByteArray} (s : List S) (hn : fitL (runes n 0) = true) : okT (unmetT n s) = true := one_ok hn (nf_set _)
theorem unmet_len {n : ByteArray} {s : List S} (hs : isSet (-1) s = true) (h6 : s.length ≤ 6) : (unmetT n s).set.length ≤ 7 := by
  have := not_len hs
  show (notS s).length ≤ 7
  omega
def VerK (X : List Kn) : Prop := ∀ q ∈ X, ∀ r ∈ q.2.1, 0 ≤ r.1 ∧ r.1 < 1000000000
def FitX (X : List Kn) : Prop := ∀ q ∈ X, fitL (runes q.1 0) = true
def RisX (X : List Kn) : Prop := ∀ q ∈ X, RisesR q.2.1
structure OkX (X : List Kn) : Prop where
  fine : FineX X
  sets : SetX X
  vers : VerK X
  fits : FitX X
  few : X.length ≤ 100
  rise : RisX X
theorem relE_vers (nm : ByteArray) (b : List UInt8) : ∀ r ∈ relE nm b, 0 ≤ r.1 ∧ r.1 < 1000000000 := by
  unfold relE
  split
  · rename_i h
    unfold goodE at h
    simp only [Bool.and_eq_true, decide_eq_true_eq] at h
    have hok : okM (readB b).1 (readB b).2 = true := by
      unfold readB
      rw [if_pos h.1]
      have h0 := h.1
      unfold errB at h0
      split at h0
      · exact absurd h0 (by simp)
      · split at h0
        · rename_i e; exact absurd h0 e
        · split at h0
          · rename_i e; exact e
          · exact absurd h0 (by simp)
    simp only [okM, Bool.and_eq_true] at hok
    intro r hr
    have := okR_all hok.1 r hr
    exact ⟨by omega, this.2.1⟩
  · intro r hr; cases hr
theorem relE_rise (nm : ByteArray) (b : List UInt8) : RisesR (relE nm b) := by
  unfold relE
  split
  · rename_i h
    unfold goodE at h
    simp only [Bool.and_eq_true, decide_eq_true_eq] at h
    have hok : okM (readB b).1 (readB b).2 = true := by
      unfold readB
      rw [if_pos h.1]
      have h0 := h.1
      unfold errB at h0
      split at h0
      · exact absurd h0 (by simp)
      · split at h0
        · rename_i e; exact absurd h0 e
        · split at h0
          · rename_i e; exact e
          · exact absurd h0 (by simp)
    exact (okM_parts hok).2.1
  · exact List.Pairwise.nil
theorem RisX.nil : RisX [] := fun q hq => by cases hq
theorem RisX.put {l : List Kn} (h : RisX l) (nm : ByteArray) (b : List UInt8) : RisX (putX l nm b) := by
  unfold putX
  split
  · intro q hq
    rcases (insX_mem _ _).1 hq with rfl | hq
    · exact relE_rise nm b
    · exact h q hq
  · exact h
theorem RisX.puts {l : List Kn} (h : RisX l) (es : List En) : RisX (putsX l es) := by
  induction es generalizing l with
  | nil => exact h
  | cons e t ih => exact ih (h.put e.1 e.2)
theorem VerK.nil : VerK [] := fun q hq => by cases hq
theorem VerK.put {l : List Kn} (h : VerK l) (nm : ByteArray) (b : List UInt8) : VerK (putX l nm b) := by
  unfold putX
  split
  · intro q hq
    rcases (insX_mem _ _).1 hq with rfl | hq
    · exact relE_vers nm b
    · exact h q hq
  · exact h
theorem VerK.puts {l : List Kn} (h : VerK l) (es : List En) : VerK (putsX l es) := by
  induction es generalizing l with
  | nil => exact h
  | cons e t ih => exact ih (h.put e.1 e.2)
theorem FitX.nil : FitX [] := fun q hq => by cases hq
theorem FitX.put {l : List Kn} (h : FitX l) (nm : ByteArray) (b : List UInt8) : FitX (putX l nm b) := by
  unfold putX
  split
  · rename_i h0
    intro q hq
    rcases (insX_mem _ _).1 hq with rfl | hq
    · have := (errX_zero.1 h0).1
      unfold mayX at this
      simp only [Bool.and_eq_true] at this
      exact this.1
    · exact h q hq
  · exact h
theorem FitX.puts {l : List Kn} (h : FitX l) (es : List En) : FitX (putsX l es) := by
  induction es generalizing l with
  | nil => exact h
  | cons e t ih => exact ih (h.put e.1 e.2)
theorem known_fit {X : List Kn} (h : FitX X) {n : ByteArray} {k : Kv} (hk : atX X n = some k) : fitL (runes n 0) = true := h _ (atX_in hk)
theorem rel_known {X : List Kn} {n : ByteArray} {v : Int} {r : Rl} (h : relX X n v = some r) : ∃ k, atX X n = some k ∧ r ∈ k.1 ∧ r.1 = v := by
  unfold relX getX at h
  cases e : atX X n with
  | none => rw [e] at h; cases h
  | some k =>
    rw [e] at h
    exact ⟨k, rfl, (getR_mem h).1, (getR_mem h).2⟩
end Go.Proofs.YtdmejcfnolhplaaGreat.Fact
/-
  Contracts of the document's own Asked, Released and Needed of facts. Condition: needs that may be; an index that was put together.
-/
namespace Go.Proofs.YtdmejcfnolhplaaGreat.Fact
open Go Go.RowKit Go.Lib Go.Proofs.YtdmejcfnolhplaaGreat.Span Go.Proofs.YtdmejcfnolhplaaGreat.Need Go.Proofs.YtdmejcfnolhplaaGreat.Mani Go.Proofs.YtdmejcfnolhplaaGreat.Index Go.Proofs.YtdmejcfnolhplaaGreat.Grow Go.Proofs.YtdmejcfnolhplaaGreat.Term Go.Proofs.YtdmejcfnolhplaaGreat.Clash Go.Proofs.YtdmejcfnolhplaaGreat.Fit
open Go.Proofs.YtdmejcfnolhplaaGreat.Label (runes fitL)
set_option linter.unusedVariables false
theorem rls_on {w : World} {B n c : Nat} {A : Option Addr} {rs : List Vr} {l : List Rl} (h : Rls w B (.slice A n c) n rs l) : RlOn w A n l := by
  obtain ⟨A1, c1, e, _, hT⟩ := h.told
  injection e with e1 e2 e3
  rw [← e1] at hT
  exact hT
theorem one_tmR (w : World) (nm : ByteArray) (A : Option Addr) (n c : Nat) (z : Bool) {s : List S} (h : InS w 0 A n s) (g : Nat) (hg : g = w.heap.size) :
    TmR (w.alloc (.cells #[.string nm, .slice A n c, .bool z] 77)) (w.alloc (.cells #[.string nm, .slice A n c, .bool z] 77)).heap.size (some ⟨g, 0, none⟩) 1 [⟨nm, s, z⟩] := by
  subst hg
  have hT : TmsR (w.alloc (.cells #[.string nm, .slice A n c, .bool z] 77)) w.heap.size (.slice (some ⟨w.heap.size, 0, none⟩) 1 1) 1 [(nm, .slice A n c, z)] [⟨nm, s, z⟩] := ⟨own_one w nm A n c z _ (Nat.le_refl _), AllT.one (h.below (alloc_b _))⟩
  obtain ⟨A1, c1, e, _, hR⟩ := hT.told
  injection e with e1 e2 e3
  rw [← e1] at hR
  exact hR
theorem own_two (w : World) (nm : ByteArray) (A : Option Addr) (n c : Nat) (z : Bool) (nm' : ByteArray) (A' : Option Addr) (n' c' : Nat) (z' : Bool) (B : Nat) (hB : B ≤ w.heap.size) :
    (w.alloc (.cells #[.string nm, .slice A n c, .bool z, .string nm', .slice A' n' c', .bool z'] 77)).ownsRow B 77 3 (.slice (some ⟨w.heap.size, 0, none⟩) 2 2) 2 (tms [(nm, .slice A n c, z), (nm', .slice A' n' c', z')]) :=
  ⟨rfl, .inr ⟨w.heap.size, 2, _, rfl, hB, heap_alloc_new w _, Nat.le_refl _, by decide, rfl, rfl⟩⟩
theorem two_tmR (w : World) (nm : ByteArray) (A : Option Addr) (n c : Nat) (z : Bool) (nm' : ByteArray) (A' : Option Addr) (n' c' : Nat) (z' : Bool) {s s' : List S} (h : InS w 0 A n s) (h' : InS w 0 A' n' s') (g : Nat) (hg : g = w.heap.size) :
    TmR (w.alloc (.cells #[.string nm, .slice A n c, .bool z, .string nm', .slice A' n' c', .bool z'] 77)) (w.alloc (.cells #[.string nm, .slice A n c, .bool z, .string nm', .slice A' n' c', .bool z'] 77)).heap.size (some ⟨g, 0, none⟩) 2 [⟨nm, s, z⟩, ⟨nm', s', z'⟩] := by
  subst hg
  have hb := alloc_b (w := w) (.cells #[.string nm, .slice A n c, .bool z, .string nm', .slice A' n' c', .bool z'] 77)
  have hT : TmsR (w.alloc (.cells #[.string nm, .slice A n c, .bool z, .string nm', .slice A' n' c', .bool z'] 77)) w.heap.size (.slice (some ⟨w.heap.size, 0, none⟩) 2 2) 2 ([(nm, .slice A n c, z)] ++ [(nm', .slice A' n' c', z')]) ([⟨nm, s, z⟩] ++ [⟨nm', s', z'⟩]) := ⟨own_two w nm A n c z nm' A' n' c' z' _ (Nat.le_refl _), (AllT.one (h.below hb)).append (AllT.one (h'.below hb))⟩
  obtain ⟨A1, c1, e, _, hR⟩ := hT.told
  injection e with e1 e2 e3
  rw [← e1] at hR
  exact hR
theorem at_nil {X : List Kn} {nm : ByteArray} (h : atX X nm = none) : releasedC X nm = none := by unfold releasedC; rw [h]
theorem at_get {X : List Kn} {nm : ByteArray} {k : Kv} (h : atX X nm = some k) : getX X nm = k := by unfold getX; rw [h]; rfl
theorem released_ok {X : List Kn} (hX : OkX X) {nm : ByteArray} {k : Kv} (h : atX X nm = some k) : okT ⟨nm, notS (versS k.1), false⟩ = true ∧ (notS (versS k.1)).length ≤ 31 ∧ k.1.length ≤ 30 ∧ FineR k.1 := by
  have hf := hX.fine.get nm
  rw [at_get h] at hf
  have h1 := vers_len k.1
  have h2 := not_len (vers_set k.1)
  have h3 := hf.1
  exact ⟨one_ok (known_fit hX.fits h) (nf_set _), by omega, h3, hf⟩
theorem needed_none {X : List Kn} {nm tn : ByteArray} {v : Int} (h : relX X nm v = none) : neededC X nm v tn = none := by unfold neededC; rw [h]
theorem needed_ok1 {X : List Kn} (hX : OkX X) {nm tn : ByteArray} {v : Int} {r : Rl} {s : List S} (h : relX X nm v = some r) (hs : findS r.2 tn = some s) :
    (0 ≤ v ∧ v < 1000000000) ∧ okT ⟨nm, atS v, false⟩ = true ∧ okT (unmetT tn s) = true ∧ (unmetT tn s).set.length ≤ 7 ∧ s.length ≤ 6 := by
  obtain ⟨k, hk, hr, hv⟩ := rel_known h
  have hin := atX_in hk
  have hver := hX.vers _ hin r hr
  rw [hv] at hver
  have hok : okS r.2 = true := hX.sets _ hin r hr
  obtain ⟨ho, _, _, hsets⟩ := okS_parts hok
  have hq := find_in hs
  have hset : isSet (-1) s = true ∧ s.length ≤ 6 := hsets _ hq
  refine ⟨hver, one_ok (known_fit hX.fits hk) ?_, unmet_ok s (ok_all ho _ hq).2.1, unmet_len hset.1 hset.2, hset.2⟩
  rw [← at_one hver.1 hver.2]
  exact nf_set _
end Go.Proofs.YtdmejcfnolhplaaGreat.Fact
/-
  Plain mathematics of judging: how long the clashes of a proof's steps may become. Each span of theirs begins where a span of a fact of the same name does, and each name is a fact's. No program.
-/
namespace Go.Proofs.YtdmejcfnolhplaaGreat.Judge
open Go.RowKit Go.Lib Go.Proofs.YtdmejcfnolhplaaGreat.Label Go.Proofs.YtdmejcfnolhplaaGreat.Span Go.Proofs.YtdmejcfnolhplaaGreat.Need Go.Proofs.YtdmejcfnolhplaaGreat.Mani Go.Proofs.YtdmejcfnolhplaaGreat.Wire Go.Proofs.YtdmejcfnolhplaaGreat.Depot Go.Proofs.YtdmejcfnolhplaaGreat.Index Go.Proofs.YtdmejcfnolhplaaGreat.Reach Go.Proofs.YtdmejcfnolhplaaGreat.Pick Go.Proofs.YtdmejcfnolhplaaGreat.Fit Go.Proofs.YtdmejcfnolhplaaGreat.Term Go.Proofs.YtdmejcfnolhplaaGreat.Clash Go.Proofs.YtdmejcfnolhplaaGreat.Proof
open Go.Proofs.YtdmejcfnolhplaaGreat.Fact (askedC releasedC neededC unmetT atS OkX unmet_len unmet_ok FitX)
set_option linter.unusedVariables false
abbrev Pr := ByteArray × Int
def prsT (t : Tm) : List Pr := t.set.map fun s => (t.name, s.1)
def prsC (c : List Tm) : List Pr := c.flatMap prsT
theorem prsT_mem {t : Tm} {p : Pr} : p ∈ prsT t ↔ p.1 = t.name ∧ p.2 ∈ t.set.map Prod.fst := by
  unfold prsT
  constructor
  · intro h
    obtain ⟨s, hs, rfl⟩ := List.mem_map.1 h
    exact ⟨rfl, List.mem_map.2 ⟨s, hs, rfl⟩⟩
  · rintro ⟨h1, h2⟩
    obtain ⟨s, hs, e⟩ := List.mem_map.1 h2
    exact List.mem_map.2 ⟨s, hs, by rw [← h1, e]⟩
theorem prsC_mem {c : List Tm} {p : Pr} : p ∈ prsC c ↔ ∃ t ∈ c, p ∈ prsT t := List.mem_flatMap
theorem prsC_cons (t : Tm) (c : List Tm) : prsC (t :: c) = prsT t ++ prsC c := by unfold prsC; rw [List.flatMap_cons]
theorem prsC_len : ∀ c : List Tm, (prsC c).length = sumC c
  | [] => rfl
  | t :: r => by rw [prsC_cons, List.length_append, prsC_len r, sumC_cons]; unfold prsT; rw [List.length_map]
theorem meet_starts {a b : List S} (ha : isSet (-1) a = true) (hb : isSet (-1) b = true) : ∀ p ∈ (meetS a b).map Prod.fst, p ∈ a.map Prod.fst ∨ p ∈ b.map Prod.fst := fun x hx => by
  obtain ⟨s, hs, rfl⟩ := List.mem_map.1 hx
  obtain ⟨h1, h2⟩ := nf_before hs
  have h1' : (has a s.1 && has b s.1) = true := h1
  simp only [Bool.and_eq_true] at h1'
  rcases h2 with h0 | h2
  · exact .inl (start_edge h1'.1 (by rw [h0]; exact none_below ha))
  · have h2' : (has a (s.1 - 1) && has b (s.1 - 1)) = false := h2
    cases g : has a (s.1 - 1) with
    | false => exact .inl (start_edge h1'.1 g)
    | true =>
      rw [g] at h2'
      exact .inr (start_edge h1'.2 h2')
theorem union_starts {a b : List S} (ha : isSet (-1) a = true) (hb : isSet (-1) b = true) : ∀ p ∈ (unionS a b).map Prod.fst, p ∈ a.map Prod.fst ∨ p ∈ b.map Prod.fst := fun x hx => by
  obtain ⟨s, hs, rfl⟩ := List.mem_map.1 hx
  obtain ⟨h1, h2⟩ := nf_before hs
  have h1' : (has a s.1 || has b s.1) = true := h1
  have h2' : has a (s.1 - 1) = false ∧ has b (s.1 - 1) = false := by
    rcases h2 with h0 | h2
    · rw [h0]; exact ⟨none_below ha, none_below hb⟩
    · have h2' : (has a (s.1 - 1) || has b (s.1 - 1)) = false := h2
      simpa using h2'
  cases g : has a s.1 with
  | true => exact .inl (start_edge g h2'.1)
  | false =>
    rw [g] at h1'
    exact .inr (start_edge h1' h2'.2)
theorem ok_set {t : Tm} (h : okT t = true) : isSet (-1) t.set = true := by
  unfold okT at h
  simp only [Bool.and_eq_true] at h
  exact h.2
theorem prs_meet {x y : Tm} (hx : okT x = true) (hy : okT y = true) (e : x.name = y.name) {p : Pr} (hp : p ∈ prsT (meetT x y)) : p ∈ prsT x ∨ p ∈ prsT y := by
  unfold meetT at hp
  rw [if_pos e] at hp
  obtain ⟨h1, h2⟩ := prsT_mem.1 hp
  rcases meet_starts (ok_set hx) (ok_set hy) p.2 h2 with h | h
  · exact .inl (prsT_mem.2 ⟨h1, h⟩)
  · exact .inr (prsT_mem.2 ⟨h1.trans e, h⟩)
theorem prs_join {x y : Tm} (hx : okT x = true) (hy : okT y = true) (e : x.name = y.name) {p : Pr} (hp : p ∈ prsT (joinT x y)) : p ∈ prsT x ∨ p ∈ prsT y := by
  unfold joinT at hp
  rw [if_pos e] at hp
  obtain ⟨h1, h2⟩ := prsT_mem.1 hp
  rcases union_starts (ok_set hx) (ok_set hy) p.2 h2 with h | h
  · exact .inl (prsT_mem.2 ⟨h1, h⟩)
  · exact .inr (prsT_mem.2 ⟨h1.trans e, h⟩)
theorem prs_put {t : Tm} (ht : okT t = true) {p : Pr} : ∀ (c : List Tm) (f : Bool), (∀ x ∈ c, okT x = true) → p ∈ prsC (putC t f c) → p ∈ prsT t ∨ p ∈ prsC c
  | [], f, h, hp => by
    rw [putC] at hp
    split at hp
    · cases hp
    · rw [prsC_cons] at hp
      exact .inl (by simpa [prsC] using hp)
  | x :: r, f, h, hp => by
    have hx := h x (by simp)
    have hr : ∀ y ∈ r, okT y = true := fun y hy => h y (by simp [hy])
    have go : ∀ g, p ∈ prsC (putC t g r) → p ∈ prsT t ∨ p ∈ prsC (x :: r) := fun g hg => (prs_put ht r g hr hg).imp id (fun h => by rw [prsC_cons]; exact List.mem_append_right _ h)
    rw [putC] at hp
    split at hp
    · rename_i e
      rw [prsC_cons] at hp
      rcases List.mem_append.1 hp with hp | hp
      · rcases prs_meet hx ht e hp with h | h
        · exact .inr (by rw [prsC_cons]; exact List.mem_append_left _ h)
        · exact .inl h
      · exact go _ hp
    · split at hp
      · rw [prsC_cons, prsC_cons] at hp
        rcases List.mem_append.1 hp with hp | hp
        · exact .inl hp
        · rcases List.mem_append.1 hp with hp | hp
          · exact .inr (by rw [prsC_cons]; exact List.mem_append_left _ hp)
          · exact go _ hp
      · rw [prsC_cons] at hp
        rcases List.mem_append.1 hp with hp | hp
        · exact .inr (by rw [prsC_cons]; exact List.mem_append_left _ hp)
        · exact go _ hp
theorem prs_puts {l : List Tm} (h : ∀ t ∈ l, okT t = true) {p : Pr} (hp : p ∈ prsC (putsC l)) : p ∈ prsC l := by
  have key : ∀ (l c : List Tm), (∀ t ∈ l, okT t = true) → (∀ t ∈ c, okT t = true) → p ∈ prsC (l.foldl (fun c t => putC t false c) c) → p ∈ prsC c ∨ p ∈ prsC l := by
    intro l
    induction l with
    | nil => intro c _ _ h; exact .inl h
    | cons t r ih =>
      intro c h0 h2 hp
      rw [List.foldl_cons] at hp
      rcases ih _ (fun y hy => h0 y (by simp [hy])) (put_ok (h0 t (by simp)) false h2) hp with h | h
      · rcases prs_put (h0 t (by simp)) c false h2 h with h | h
        · exact .inr (by rw [prsC_cons]; exact List.mem_append_left _ h)
        · exact .inl h
      · exact .inr (by rw [prsC_cons]; exact List.mem_append_right _ h)
  rcases key l [] h (fun z hz => by cases hz) hp with h | h
  · cases h
  · exact h
theorem names_puts {l : List Tm} {z : Tm} (hz : z ∈ putsC l) : ∃ x ∈ l, z.name = x.name := by
  have key : ∀ (l c : List Tm), z ∈ l.foldl (fun c t => putC t false c) c → (∃ x ∈ c, z.name = x.name) ∨ ∃ x ∈ l, z.name = x.name := by
    intro l
    induction l with
    | nil => intro c h; exact .inl ⟨z, h, rfl⟩
    | cons t r ih =>
      intro c hp
      rw [List.foldl_cons] at hp
      rcases ih _ hp with ⟨x, hx, e⟩ | ⟨x, hx, e⟩
      · rcases put_names t c false x hx with h | ⟨y, hy, h⟩
        · exact .inr ⟨t, by simp, e.trans h⟩
        · exact .inl ⟨y, hy, e.trans h⟩
      · exact .inr ⟨x, by simp [hx], e⟩
  rcases key l [] hz with ⟨x, hx, _⟩ | h
  · cases hx
  · exact h
theorem make_prs {l m : List Tm} (hl : ∀ t ∈ l, okT t = true) (h : makeC l = some m) : (∀ p ∈ prsC m, p ∈ prsC l) ∧ ∀ z ∈ m, ∃ x ∈ l, z.name = x.name := by
  unfold makeC at h
  split at h
  · cases h
  · injection h with h
    subst h
    refine ⟨fun p hp => ?_, fun z hz => names_puts (List.mem_filter.1 hz).1⟩
    obtain ⟨t, ht, hp⟩ := prsC_mem.1 hp
    exact prs_puts hl (prsC_mem.2 ⟨t, (List.mem_filter.1 ht).1, hp⟩)
theorem join_prs {a b j : List Tm} {n : ByteArray} (ha : ∀ t ∈ a, okT t = true) (hb : ∀ t ∈ b, okT t = true) (h : joinC a b n = some j) : (∀ p ∈ prsC j, p ∈ prsC a ∨ p ∈ prsC b) ∧ ∀ z ∈ j, (∃ x ∈ a, z.name = x.name) ∨ ∃ x ∈ b, z.name = x.name := by
  cases hx : findC a n with
  | none => unfold joinC at h; rw [hx] at h; cases h
  | some x =>
    cases hy : findC b n with
    | none => unfold joinC at h; rw [hx, hy] at h; cases h
    | some y =>
      unfold joinC at h
      rw [hx, hy] at h
      simp only [] at h
      have hxa := find_name hx
      have hyb := find_name hy
      have hok : ∀ t ∈ joinT x y :: dropC a n ++ dropC b n, okT t = true := fun t ht => by
        rcases List.mem_append.1 ht with ht | ht
        · rcases List.mem_cons.1 ht with rfl | ht
          · exact ok_join (ha x hxa.1) (hxa.2.trans hyb.2.symm)
          · exact ha t (List.mem_filter.1 ht).1
        · exact hb t (List.mem_filter.1 ht).1
      obtain ⟨h1, h2⟩ := make_prs hok h
      have hn : (joinT x y).name = x.name := by unfold joinT; rw [if_pos (hxa.2.trans hyb.2.symm)]
      refine ⟨fun p hp => ?_, fun z hz => ?_⟩
      · obtain ⟨t, ht, hp⟩ := prsC_mem.1 (h1 p hp)
        rcases List.mem_append.1 ht with ht | ht
        · rcases List.mem_cons.1 ht with rfl | ht
          · rcases prs_join (ha x hxa.1) (hb y hyb.1) (hxa.2.trans hyb.2.symm) hp with h | h
            · exact .inl (prsC_mem.2 ⟨x, hxa.1, h⟩)
            · exact .inr (prsC_mem.2 ⟨y, hyb.1, h⟩)
          · exact .inl (prsC_mem.2 ⟨t, (List.mem_filter.1 ht).1, hp⟩)
        · exact .inr (prsC_mem.2 ⟨t, (List.mem_filter.1 ht).1, hp⟩)
      · obtain ⟨t, ht, e⟩ := h2 z hz
        rcases List.mem_append.1 ht with ht | ht
        · rcases List.mem_cons.1 ht with rfl | ht
          · exact .inl ⟨x, hxa.1, e.trans hn⟩
          · exact .inl ⟨t, (List.mem_filter.1 ht).1, e⟩
        · exact .inr ⟨t, (List.mem_filter.1 ht).1, e⟩
/-! How many there are. -/
theorem apart_len {α : Type} : ∀ (L M : List α), L.Pairwise (fun x y => x ≠ y) → (∀ x ∈ L, x ∈ M) → L.length ≤ M.length
  | [], _, _, _ => Nat.zero_le _
  | x :: t, M, h, hm => by
    letI : DecidableEq α := fun a b => Classical.propDecidable (a = b)
    obtain ⟨h1, h2⟩ := List.pairwise_cons.1 h
    have hx := hm x (by simp)
    have ih := apart_len t (M.erase x) h2 (fun y hy => (List.mem_erase_of_ne (fun e => h1 y hy e.symm)).2 (hm y (by simp [hy])))
    rw [List.length_erase_of_mem hx] at ih
    have := List.length_pos_of_mem hx
    simp only [List.length_cons]
    omega
theorem prsT_apart {t : Tm} (h : okT t = true) : (prsT t).Pairwise (fun x y => x ≠ y) := by
  unfold prsT
  have := starts_rise (ok_set h)
  rw [List.pairwise_map] at this ⊢
  exact this.imp fun hlt e => by injection e with _ e2; omega
theorem prsC_apart : ∀ {c : List Tm}, RisesC c → (∀ t ∈ c, okT t = true) → (prsC c).Pairwise (fun x y => x ≠ y)
  | [], _, _ => List.Pairwise.nil
  | t :: r, hr, ho => by
    obtain ⟨h1, h2⟩ := List.pairwise_cons.1 hr
    rw [prsC_cons]
    refine List.pairwise_append.2 ⟨prsT_apart (ho t (by simp)), prsC_apart h2 fun y hy => ho y (by simp [hy]), fun p hp q hq e => ?_⟩
    obtain ⟨u, hu, hq⟩ := prsC_mem.1 hq
    exact nlt_ne (h1 u hu) (((prsT_mem.1 hp).1.symm.trans (by rw [e])).trans (prsT_mem.1 hq).1)
def InvC (P : List Pr) (N : List ByteArray) (c : List Tm) : Prop := OkC c ∧ (∀ p ∈ prsC c, p ∈ P) ∧ ∀ t ∈ c, t.name ∈ N
section
variable {P : List Pr} {N : List ByteArray} {c : List Tm}
theorem InvC.len (h : InvC P N c) : c.length ≤ N.length ∧ sumC c ≤ P.length := by
  obtain ⟨⟨h1, h2⟩, h3, h4⟩ := h
  refine ⟨?_, ?_⟩
  · have := apart_len (c.map Tm.name) N (by rw [List.pairwise_map]; exact h1.imp fun h => nlt_ne h) (fun x hx => by
      obtain ⟨t, ht, rfl⟩ := List.mem_map.1 hx
      exact h4 t ht)
    simpa using this
  · rw [← prsC_len]
    exact apart_len _ _ (prsC_apart h1 fun t ht => (h2 t ht).1) h3
theorem InvC.nil : InvC P N [] := ⟨⟨List.Pairwise.nil, (fun t ht => by cases ht)⟩, (fun p hp => by cases hp), (fun t ht => by cases ht)⟩
theorem inv_join {a b j : List Tm} {n : ByteArray} (ha : InvC P N a) (hb : InvC P N b) (h : joinC a b n = some j) : InvC P N j := by
  obtain ⟨h1, h2⟩ := join_prs (fun t ht => (ha.1.2 t ht).1) (fun t ht => (hb.1.2 t ht).1) h
  refine ⟨(join_sound ha.1 hb.1 h).1, fun p hp => (h1 p hp).elim (ha.2.1 p) (hb.2.1 p), fun z hz => ?_⟩
  rcases h2 z hz with ⟨x, hx, e⟩ | ⟨x, hx, e⟩
  · rw [e]; exact ha.2.2 x hx
  · rw [e]; exact hb.2.2 x hx
theorem inv_make {l m : List Tm} (hl : ∀ t ∈ l, okT t = true) (h : makeC l = some m) : InvC (prsC l) (l.map Tm.name) m := by
  obtain ⟨h1, h2⟩ := make_prs hl h
  refine ⟨make_ok hl h, h1, fun t ht => ?_⟩
  obtain ⟨x, hx, e⟩ := h2 t ht
  exact List.mem_map.2 ⟨x, hx, e.symm⟩
end
/-! Of an index that was put together. -/
def EightX (X : List Kn) : Prop := ∀ q ∈ X, q.2.1.length ≤ 8
theorem relE_eight (nm : ByteArray) (b : List UInt8) : (relE nm b).length ≤ 8 := by
  unfold relE
  split
  · rename_i h
    unfold goodE at h
    simp only [Bool.and_eq_true, decide_eq_true_eq] at h
    have hok : okM (readB b).1 (readB b).2 = true := by
      unfold readB
      rw [if_pos h.1]
      have h0 := h.1
      unfold errB at h0
      split at h0
      · exact absurd h0 (by simp)
      · split at h0
        · rename_i e; exact absurd h0 e
        · split at h0
          · rename_i e; exact e
          · exact absurd h0 (by simp)
    exact (okM_parts hok).1
  · exact Nat.zero_le _
theorem EightX.nil : EightX [] := fun q hq => by cases hq
theorem EightX.put {l : List Kn} (h : EightX l) (nm : ByteArray) (b : List UInt8) : EightX (putX l nm b) := by
  unfold putX
  split
  · intro q hq
    rcases (insX_mem _ _).1 hq with rfl | hq
    · exact relE_eight nm b
    · exact h q hq
  · exact h
theorem EightX.puts {l : List Kn} (h : EightX l) (es : List En) : EightX (putsX l es) := by
  induction es generalizing l with
  | nil => exact h
  | cons e t ih => exact ih (h.put e.1 e.2)
section
variable {X : List Kn} {root : List Nd}
theorem one_same {s : Sp} (k4 : s.kind ≠ 4) (hk : 1 ≤ s.kind ∧ s.kind ≤ 4) (o o' : List (List Tm)) : oneC X root s o = oneC X root s o' := by
  unfold oneC
  by_cases k1 : s.kind = 1
  · rw [if_pos k1, if_pos k1]
  · rw [if_neg k1, if_neg k1]
    by_cases k2 : s.kind = 2
    · rw [if_pos k2, if_pos k2]
    · rw [if_neg k2, if_neg k2, if_pos (by omega), if_pos (by omega)]
theorem may_kind {s : Sp} {i : Nat} (h : mayS s i = true) : (1 ≤ s.kind ∧ s.kind ≤ 4) ∧ fitL (runes s.name 0) = true := by
  unfold mayS at h
  simp only [Bool.and_eq_true, decide_eq_true_eq] at h
  exact ⟨h.1.1.1, h.1.1.2⟩
theorem fact_len (hX : OkX X) (h8 : EightX X) (hr : okS root = true) {s : Sp} {i : Nat} (hm : mayS s i = true) (k4 : s.kind ≠ 4) {o : List (List Tm)} {c : List Tm} (hc : oneC X root s o = some c) : OkC c ∧ sumC c ≤ 9 ∧ c.length ≤ 2 := by
  obtain ⟨hk, hn⟩ := may_kind hm
  have key : ∀ l : List Tm, (∀ t ∈ l, okT t = true) → makeC l = some c → sumC l ≤ 9 → l.length ≤ 2 → OkC c ∧ sumC c ≤ 9 ∧ c.length ≤ 2 := fun l hl h h9 h2 => by
    have hi := inv_make hl h
    have := hi.len
    rw [List.length_map, prsC_len] at this
    exact ⟨hi.1, by omega, by omega⟩
  unfold oneC at hc
  by_cases k1 : s.kind = 1
  · rw [if_pos k1] at hc
    unfold askedC at hc
    cases hf : findS root s.name with
    | none => rw [hf] at hc; cases hc
    | some x =>
      rw [hf] at hc
      obtain ⟨ho, _, _, hsets⟩ := okS_parts hr
      have hset : isSet (-1) x = true ∧ x.length ≤ 6 := hsets _ (find_in hf)
      have := unmet_len (n := s.name) hset.1 hset.2
      exact key _ (fun t ht => by rw [List.mem_singleton.1 ht]; exact Fact.unmet_ok x hn) hc (by rw [sumC_cons]; show _ + 0 ≤ 9; omega) (by simp)
  · rw [if_neg k1] at hc
    by_cases k2 : s.kind = 2
    · rw [if_pos k2] at hc
      unfold releasedC at hc
      cases hk : atX X s.name with
      | none => rw [hk] at hc; cases hc
      | some k =>
        rw [hk] at hc
        obtain ⟨h1, _, _, _⟩ := Fact.released_ok hX hk
        have h2 := Fact.vers_len k.1
        have h3 := Fact.not_len (Fact.vers_set k.1)
        have h4 := h8 _ (atX_in hk)
        exact key _ (fun t ht => by rw [List.mem_singleton.1 ht]; exact h1) hc (by rw [sumC_cons]; show (notS (versS k.1)).length + 0 ≤ 9; simp only [] at h4; omega) (by simp)
    · rw [if_neg k2, if_pos (show s.kind = 3 by omega)] at hc
      unfold neededC at hc
      cases hrel : relX X s.name s.ver with
      | none => rw [hrel] at hc; cases hc
      | some r =>
        rw [hrel] at hc
        cases hf : findS r.2 s.dest with
        | none => simp only [hf] at hc; cases hc
        | some x =>
          simp only [hf] at hc
          obtain ⟨_, h1, h2, h3, _⟩ := Fact.needed_ok1 hX hrel hf
          exact key _ (fun t ht => by
            rcases List.mem_cons.1 ht with rfl | ht
            · exact h1
            · rw [List.mem_singleton.1 ht]; exact h2) hc (by rw [sumC_cons, sumC_cons]; show 1 + (_ + 0) ≤ 9; omega) (by simp)
noncomputable def factC (X : List Kn) (root : List Nd) (s : Sp) : List Tm := if s.kind = 4 then [] else (oneC X root s []).getD []
noncomputable def prsS (X : List Kn) (root : List Nd) (l : List Sp) : List Pr := l.flatMap fun s => prsC (factC X root s)
noncomputable def nmsS (X : List Kn) (root : List Nd) (l : List Sp) : List ByteArray := l.flatMap fun s => (factC X root s).map Tm.name
theorem facts_len (hX : OkX X) (h8 : EightX X) (hr : okS root = true) : ∀ (l : List Sp), (∀ s ∈ l, ∃ i, mayS s i = true) → (prsS X root l).length ≤ 9 * l.length ∧ (nmsS X root l).length ≤ 2 * l.length
  | [], _ => ⟨Nat.zero_le _, Nat.zero_le _⟩
  | s :: r, h => by
    obtain ⟨h1, h2⟩ := facts_len hX h8 hr r fun q hq => h q (by simp [hq])
    obtain ⟨i, hm⟩ := h s (by simp)
    have h3 : sumC (factC X root s) ≤ 9 ∧ (factC X root s).length ≤ 2 := by
      unfold factC
      split
      · exact ⟨Nat.zero_le _, Nat.zero_le _⟩
      · rename_i k4
        cases e : oneC X root s [] with
        | none => exact ⟨Nat.zero_le _, Nat.zero_le _⟩
        | some c => exact (fact_len hX h8 hr hm k4 e).2
    unfold prsS nmsS at *
    rw [List.flatMap_cons, List.flatMap_cons, List.length_append, List.length_append, prsC_len, List.length_map, List.length_cons]
    omega
theorem inv_one (hX : OkX X) (h8 : EightX X) (hr : okS root = true) {whole : List Sp} {s : Sp} {i : Nat} (hs : s ∈ whole) (hm : mayS s i = true) {o : List (List Tm)} (ho : ∀ d ∈ o, InvC (prsS X root whole) (nmsS X root whole) d) {c : List Tm} (hc : oneC X root s o = some c) : InvC (prsS X root whole) (nmsS X root whole) c := by
  obtain ⟨hk, hn⟩ := may_kind hm
  by_cases k4 : s.kind = 4
  · unfold oneC at hc
    rw [if_neg (by omega), if_neg (by omega), if_neg (by omega)] at hc
    have hget : ∀ j : Nat, InvC (prsS X root whole) (nmsS X root whole) ((o[j]?).getD []) := fun j => by
      cases e : o[j]? with
      | none => exact InvC.nil
      | some d => exact ho d (List.mem_of_getElem? e)
    exact inv_join (hget _) (hget _) hc
  · obtain ⟨h1, _, _⟩ := fact_len hX h8 hr hm k4 hc
    have hf : factC X root s = c := by
      unfold factC
      rw [if_neg k4, one_same k4 hk [] o, hc]
      rfl
    refine ⟨h1, fun p hp => ?_, fun t ht => ?_⟩
    · exact List.mem_flatMap.2 ⟨s, hs, by rw [hf]; exact hp⟩
    · exact List.mem_flatMap.2 ⟨s, hs, by rw [hf]; exact List.mem_map.2 ⟨t, ht, rfl⟩⟩
theorem inv_fine (hX : OkX X) (h8 : EightX X) (hr : okS root = true) {whole : List Sp} (hw : ∀ s ∈ whole, ∃ i, mayS s i = true) (hn : whole.length ≤ 120) {c : List Tm} (h : InvC (prsS X root whole) (nmsS X root whole) c) : c.length ≤ 240 ∧ sumC c ≤ 1080 := by
  have h1 := h.len
  have h2 := facts_len hX h8 hr whole hw
  omega
end
end Go.Proofs.YtdmejcfnolhplaaGreat.Judge
/-
  How long facts are. No program but as a name of what may be walked.
-/
namespace Go.Proofs.YtdmejcfnolhplaaGreat.Fact
open Go Go.RowKit Go.Lib Go.Proofs.YtdmejcfnolhplaaGreat.Label Go.Proofs.YtdmejcfnolhplaaGreat.Span Go.Proofs.YtdmejcfnolhplaaGreat.Need Go.Proofs.YtdmejcfnolhplaaGreat.Mani Go.Proofs.YtdmejcfnolhplaaGreat.Wire Go.Proofs.YtdmejcfnolhplaaGreat.Depot Go.Proofs.YtdmejcfnolhplaaGreat.Index Go.Proofs.YtdmejcfnolhplaaGreat.Reach Go.Proofs.YtdmejcfnolhplaaGreat.Pick Go.Proofs.YtdmejcfnolhplaaGreat.Fit Go.Proofs.YtdmejcfnolhplaaGreat.Term Go.Proofs.YtdmejcfnolhplaaGreat.Clash
set_option linter.unusedVariables false
def FinC (c : List Tm) : Prop := ShortT c ∧ c.length ≤ 1000 ∧ ∀ t ∈ c, isSet (-1) t.set = true
theorem FinC.nil : FinC [] := ⟨(fun t ht => by cases ht), by simp, (fun t ht => by cases ht)⟩
end Go.Proofs.YtdmejcfnolhplaaGreat.Fact
