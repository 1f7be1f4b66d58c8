/-
  Some texts of this claim, one behind the other: FitMath, FitSets, FactMath, TrailMath, TrailMore, TrailFallsM, TrailLine. What each proves, and its condition, stands at its head.
-/
import Derived.Test.YtllogmokadcfmaaGreatZB19
import Derived.Test.YtllogmokadcfmaaGreatZB8
import Derived.Test.YtllogmokadcfmaaGreatZB4
/-
  Plain mathematics of solutions: what is needed by picks; what is wrong with them; a solution stays one as more is known, its names are just those that are needed, without one of its picks it is none. No program.
-/
namespace Go.Proofs.YtllogmokadcfmaaGreat.Fit
open Go.RowKit Go.Lib Go.Proofs.YtllogmokadcfmaaGreat.Span Go.Proofs.YtllogmokadcfmaaGreat.Need Go.Proofs.YtllogmokadcfmaaGreat.Mani Go.Proofs.YtllogmokadcfmaaGreat.Wire Go.Proofs.YtllogmokadcfmaaGreat.Depot Go.Proofs.YtllogmokadcfmaaGreat.Index Go.Proofs.YtllogmokadcfmaaGreat.Reach Go.Proofs.YtllogmokadcfmaaGreat.Pick
set_option linter.unusedVariables false
def relX (X : List Kn) (a : ByteArray) (v : Int) : Option Rl := getR (getX X a).1 v
def needsX (X : List Kn) (a : ByteArray) (v : Int) : List Nd := ((relX X a v).getD (0, [])).2
def asksF (X : List Kn) (l : List Pk) (a : ByteArray) : List ByteArray := match getP l a with
  | some v => namesS (needsX X a v)
  | none => []
inductive MayF (X : List Kn) (root : List Nd) (l : List Pk) : ByteArray → Prop
  | root {a : ByteArray} (h : a ∈ namesS root) : MayF X root l a
  | ask {a b : ByteArray} (h : MayF X root l a) (k : b ∈ asksF X l a) : MayF X root l b
section
variable {X : List Kn} {root : List Nd} {l : List Pk}
end
end Go.Proofs.YtllogmokadcfmaaGreat.Fit
/-
  What is known has sets for what it needs. No program.
-/
namespace Go.Proofs.YtllogmokadcfmaaGreat.Fit
open Go.RowKit Go.Lib Go.Proofs.YtllogmokadcfmaaGreat.Span Go.Proofs.YtllogmokadcfmaaGreat.Need Go.Proofs.YtllogmokadcfmaaGreat.Mani Go.Proofs.YtllogmokadcfmaaGreat.Wire Go.Proofs.YtllogmokadcfmaaGreat.Depot Go.Proofs.YtllogmokadcfmaaGreat.Index Go.Proofs.YtllogmokadcfmaaGreat.Pick
set_option linter.unusedVariables false
def SetR (l : List Rl) : Prop := ∀ r ∈ l, okS r.2 = true
def SetX (X : List Kn) : Prop := ∀ q ∈ X, SetR q.2.1
theorem SetX.nil : SetX [] := fun q hq => by cases hq
end Go.Proofs.YtllogmokadcfmaaGreat.Fit
/-
  Plain mathematics of facts: what root, and a known package, let be said of picks; of a solution no fact holds; picks of which none holds lack nothing. No program.
-/
namespace Go.Proofs.YtllogmokadcfmaaGreat.Fact
open Go.RowKit Go.Lib Go.Proofs.YtllogmokadcfmaaGreat.Label Go.Proofs.YtllogmokadcfmaaGreat.Span Go.Proofs.YtllogmokadcfmaaGreat.Need Go.Proofs.YtllogmokadcfmaaGreat.Mani Go.Proofs.YtllogmokadcfmaaGreat.Wire Go.Proofs.YtllogmokadcfmaaGreat.Depot Go.Proofs.YtllogmokadcfmaaGreat.Index Go.Proofs.YtllogmokadcfmaaGreat.Reach Go.Proofs.YtllogmokadcfmaaGreat.Pick Go.Proofs.YtllogmokadcfmaaGreat.Fit Go.Proofs.YtllogmokadcfmaaGreat.Term Go.Proofs.YtllogmokadcfmaaGreat.Clash
set_option linter.unusedVariables false
def atS (v : Int) : List S := [(v, v + 1)]
theorem has_one {v p : Int} : has (atS v) p = decide (p = v) := by
  unfold has atS
  rw [Bool.eq_iff_iff]
  simp
  omega
section
variable {X : List Kn} {root : List Nd} {l : List Pk}
end
end Go.Proofs.YtllogmokadcfmaaGreat.Fact
/-
  Plain mathematics of trails: entries with levels; what is known of a name, which only becomes less and is never empty; what is left behind a way back is what stood at that level. No program.
-/
namespace Go.Proofs.YtllogmokadcfmaaGreat.Trail
open Go.RowKit Go.Lib Go.Proofs.YtllogmokadcfmaaGreat.Label Go.Proofs.YtllogmokadcfmaaGreat.Span Go.Proofs.YtllogmokadcfmaaGreat.Need Go.Proofs.YtllogmokadcfmaaGreat.Pick Go.Proofs.YtllogmokadcfmaaGreat.Term Go.Proofs.YtllogmokadcfmaaGreat.Clash Go.Proofs.YtllogmokadcfmaaGreat.Fact
set_option linter.unusedVariables false
structure Ent where
  term : Tm
  level : Nat
  cause : Int
structure Tr where
  l : List Ent
  level : Nat
noncomputable def knowL (l : List Ent) (n : ByteArray) : Tm := l.foldl (fun o e => if e.term.name = n then meetT o e.term else o) ⟨n, allS, true⟩
def putT (x : Tr) (t : Tm) (cause : Int) : Tr := { x with l := x.l ++ [⟨t, x.level, cause⟩] }
noncomputable def decideT (x : Tr) (n : ByteArray) (v : Int) : Nat × Tr := if (fitL (runes n 0) && verOk v) = false then (1, x) else if has (knowL x.l n).set v = false then (2, x) else (0, putT { x with level := x.level + 1 } ⟨n, atS v, false⟩ (-1))
noncomputable def deriveT (x : Tr) (t : Tm) (cause : Int) : Nat × Tr := if okT t = false ∨ cause < 0 then (1, x) else if emptyT (meetT (knowL x.l t.name) t) = true then (2, x) else if withinT (knowL x.l t.name) t = true then (3, x) else (0, putT x t cause)
def upTo (l : List Ent) (k : Nat) : List Ent := l.filter fun e => decide (e.level ≤ k)
def backT (x : Tr) (k : Int) : Tr := if x.level ≤ (max k 0).toNat then x else ⟨upTo x.l (max k 0).toNat, (max k 0).toNat⟩
structure OkTr (x : Tr) : Prop where
  low : ∀ e ∈ x.l, e.level ≤ x.level
  some : ∀ n, emptyT (knowL x.l n) = false
theorem know_snoc (l : List Ent) (e : Ent) (n : ByteArray) : knowL (l ++ [e]) n = if e.term.name = n then meetT (knowL l n) e.term else knowL l n := by
  unfold knowL
  rw [List.foldl_append]
  rfl
theorem know_name (l : List Ent) (n : ByteArray) : (knowL l n).name = n := by
  have key : ∀ (l : List Ent) (o : Tm), o.name = n → (l.foldl (fun o e => if e.term.name = n then meetT o e.term else o) o).name = n := by
    intro l
    induction l with
    | nil => intro o h; exact h
    | cons e r ih =>
      intro o h
      rw [List.foldl_cons]
      refine ih _ ?_
      split
      · rename_i g
        rw [meet_same (by rw [h, g])]
        exact h
      · exact h
  exact key l _ rfl
theorem within_self (t : Tm) : withinT t t = true := by
  have e : lessS t.set t.set = [] := nf_nil.2 fun p p0 p1 => by
    show (has t.set p && !has t.set p) = false
    cases has t.set p <;> rfl
  unfold withinT
  simp only [e, decide_true, Bool.true_and]
  cases t.none <;> rfl
theorem know_less (l : List Ent) (e : Ent) (n : ByteArray) : withinT (knowL (l ++ [e]) n) (knowL l n) = true := by
  rw [know_snoc]
  split
  · rename_i h
    exact meet_withinT (by rw [know_name, h])
  · exact within_self _
end Go.Proofs.YtllogmokadcfmaaGreat.Trail
/-
  More plain mathematics of trails: how long what is known may become; by how many entries a clash is; the picks that were decided on; anything that is done, one thing behind the other; levels rise, so that what stands up to a level is a beginning. No program.
-/
namespace Go.Proofs.YtllogmokadcfmaaGreat.Trail
open Go.RowKit Go.Lib Go.Proofs.YtllogmokadcfmaaGreat.Label Go.Proofs.YtllogmokadcfmaaGreat.Span Go.Proofs.YtllogmokadcfmaaGreat.Need Go.Proofs.YtllogmokadcfmaaGreat.Pick Go.Proofs.YtllogmokadcfmaaGreat.Term Go.Proofs.YtllogmokadcfmaaGreat.Clash Go.Proofs.YtllogmokadcfmaaGreat.Fact
set_option linter.unusedVariables false
def SmallE (l : List Ent) : Prop := ∀ e ∈ l, isSet (-1) e.term.set = true ∧ e.term.set.length ≤ 60
theorem know_set (l : List Ent) (n : ByteArray) : isSet (-1) (knowL l n).set = true := by
  have key : ∀ (l : List Ent) (o : Tm), isSet (-1) o.set = true → isSet (-1) (l.foldl (fun o e => if e.term.name = n then meetT o e.term else o) o).set = true := by
    intro l
    induction l with
    | nil => intro o h; exact h
    | cons e r ih =>
      intro o h
      rw [List.foldl_cons]
      refine ih _ ?_
      split
      · unfold meetT
        split
        · exact nf_set _
        · rfl
      · exact h
  exact key l _ allS_set
theorem know_len {l : List Ent} (h : SmallE l) (n : ByteArray) : (knowL l n).set.length ≤ 1 + 60 * l.length := by
  have key : ∀ (k : Nat), k ≤ l.length → (knowL (l.take k) n).set.length ≤ 1 + 60 * k := by
    intro k
    induction k with
    | zero => intro _; simp [knowL, allS]
    | succ k ih =>
      intro hk
      have hx : l[k]? = some (l[k]'(by omega)) := by simp
      have he := h _ (List.mem_of_getElem? hx)
      rw [List.take_add_one, hx]
      show (knowL (l.take k ++ [_]) n).set.length ≤ _
      rw [know_snoc]
      have := ih (by omega)
      split
      · rename_i hn
        rw [meet_same (by rw [know_name, hn])]
        have := meet_len (know_set (l.take k) n) he.1
        simp only at this ⊢
        omega
      · omega
  have := key l.length (Nat.le_refl _)
  rwa [List.take_length] at this
theorem SmallE.take {l : List Ent} (h : SmallE l) (k : Nat) : SmallE (l.take k) := fun e he => h e (List.mem_of_mem_take he)
theorem know_len_at {l : List Ent} (h : SmallE l) (n : ByteArray) {k : Nat} : (knowL (l.take k) n).set.length ≤ 1 + 60 * l.length := by
  have h1 := know_len (h.take k) n
  rw [List.length_take] at h1
  omega
theorem know_take {l : List Ent} {i : Nat} {e : Ent} (h : l[i]? = some e) (n : ByteArray) : knowL (l.take (i + 1)) n = if e.term.name = n then meetT (knowL (l.take i) n) e.term else knowL (l.take i) n := by
  rw [List.take_add_one, h]
  exact know_snoc _ e n
noncomputable def allIn (l : List Ent) (c : List Tm) (k : Nat) : Bool := c.all fun t => withinT (knowL (l.take k) t.name) t
noncomputable def firstT (l : List Ent) (c : List Tm) : Int := match (List.range (l.length + 1)).find? (allIn l c) with
  | some n => (n : Int)
  | none => -1
theorem first_here {l : List Ent} {c : List Tm} {n : Nat} (hn : n ≤ l.length) (hb : ∀ k, k < n → allIn l c k = false) (h : allIn l c n = true) : firstT l c = (n : Int) := by
  have e : (List.range (l.length + 1)).find? (allIn l c) = some n := List.find?_range_eq_some.2 ⟨h, List.mem_range.2 (by omega), fun k hk => by rw [hb k hk]; rfl⟩
  unfold firstT
  rw [e]
theorem first_none {l : List Ent} {c : List Tm} (hb : ∀ k, k ≤ l.length → allIn l c k = false) : firstT l c = -1 := by
  have e : (List.range (l.length + 1)).find? (allIn l c) = none := List.find?_eq_none.2 fun k hk => by
    have := List.mem_range.1 hk
    rw [hb k (by omega)]
    simp
  unfold firstT
  rw [e]
def pickE (o : List Pk) (e : Ent) : List Pk := if e.cause < 0 then putP o (e.term.name, (e.term.set.headD (0, 0)).1) else o
def picksT (l : List Ent) : List Pk := l.foldl pickE []
theorem picks_take {l : List Ent} {i : Nat} {e : Ent} (h : l[i]? = some e) : picksT (l.take (i + 1)) = pickE (picksT (l.take i)) e := by
  unfold picksT
  rw [List.take_add_one, h, List.foldl_append]
  rfl
structure Rise (x : Tr) : Prop where
  low : ∀ e ∈ x.l, e.level ≤ x.level
  up : x.l.Pairwise fun a b => a.level ≤ b.level
theorem Rise.new : Rise ⟨[], 0⟩ := ⟨fun e he => by (cases he), List.Pairwise.nil⟩
theorem Rise.put {x : Tr} (h : Rise x) {k : Nat} (hk : x.level ≤ k) (t : Tm) (c : Int) : Rise (putT { x with level := k } t c) := by
  refine ⟨fun e he => ?_, List.pairwise_append.2 ⟨h.up, List.pairwise_singleton _ _, fun a ha b hb => ?_⟩⟩
  · rcases List.mem_append.1 he with he | he
    · exact Nat.le_trans (h.low e he) hk
    · rw [List.mem_singleton.1 he]; exact Nat.le_refl _
  · rw [List.mem_singleton.1 hb]
    exact Nat.le_trans (h.low a ha) hk
theorem Rise.decide {x : Tr} (h : Rise x) (n : ByteArray) (v : Int) : Rise (decideT x n v).2 := by
  unfold decideT
  split
  · exact h
  · split
    · exact h
    · exact h.put (Nat.le_succ _) _ _
theorem Rise.derive {x : Tr} (h : Rise x) (t : Tm) (c : Int) : Rise (deriveT x t c).2 := by
  unfold deriveT
  split
  · exact h
  · split
    · exact h
    · split
      · exact h
      · exact h.put (k := x.level) (Nat.le_refl _) _ _
theorem Rise.back {x : Tr} (h : Rise x) (k : Int) : Rise (backT x k) := by
  unfold backT
  split
  · exact h
  · exact ⟨fun e he => of_decide_eq_true (List.mem_filter.1 he).2, h.up.filter _⟩
theorem SmallE.snoc {l : List Ent} (h : SmallE l) {e : Ent} (h1 : isSet (-1) e.term.set = true) (h2 : e.term.set.length ≤ 60) : SmallE (l ++ [e]) := fun a ha => by
  rcases List.mem_append.1 ha with ha | ha
  · exact h a ha
  · rw [List.mem_singleton.1 ha]; exact ⟨h1, h2⟩
theorem SmallE.back {x : Tr} (h : SmallE x.l) (k : Int) : SmallE (backT x k).l := by
  unfold backT
  split
  · exact h
  · exact fun e he => h e (List.mem_filter.1 he).1
theorem SmallE.decide {x : Tr} (h : SmallE x.l) (n : ByteArray) (v : Int) : SmallE (decideT x n v).2.l := by
  unfold decideT
  split
  · exact h
  · rename_i hv
    split
    · exact h
    · have hv' : verOk v = true := by
        cases e : verOk v with
        | true => rfl
        | false => rw [e] at hv; simp at hv
      obtain ⟨h0, h1⟩ := verOk_iff.1 hv'
      refine h.snoc ?_ ?_
      · exact (isSet_cons _ _ _).2 ⟨by show -1 < v; omega, by show v < v + 1; omega, by show v + 1 ≤ 1000000000; omega, rfl⟩
      · show 1 ≤ 60
        omega
theorem SmallE.derive {x : Tr} (h : SmallE x.l) (t : Tm) (c : Int) (ht : t.set.length ≤ 60) : SmallE (deriveT x t c).2.l := by
  unfold deriveT
  split
  · exact h
  · rename_i ho
    split
    · exact h
    · split
      · exact h
      · refine h.snoc ?_ ht
        have h1 : okT t = true := by
          cases e : okT t with
          | true => rfl
          | false => exact absurd (.inl e) ho
        unfold okT at h1
        simp only [Bool.and_eq_true] at h1
        exact h1.2
structure Dt where
  kind : Int
  ver : Int
  n : Int
  term : Tm
noncomputable def doT (x : Tr) (d : Dt) : Nat × Tr := if d.kind = 0 then decideT x d.term.name d.ver else if d.kind = 1 then deriveT x d.term d.n else (0, backT x d.n)
theorem do_len (x : Tr) (d : Dt) : (doT x d).2.l.length ≤ x.l.length + 1 ∧ (doT x d).2.level ≤ x.level + 1 := by
  unfold doT
  split
  · unfold decideT
    split
    · exact ⟨Nat.le_succ _, Nat.le_succ _⟩
    · split
      · exact ⟨Nat.le_succ _, Nat.le_succ _⟩
      · simp [putT]
  · split
    · unfold deriveT
      split
      · exact ⟨Nat.le_succ _, Nat.le_succ _⟩
      · split
        · exact ⟨Nat.le_succ _, Nat.le_succ _⟩
        · split
          · exact ⟨Nat.le_succ _, Nat.le_succ _⟩
          · simp [putT]
    · unfold backT
      split
      · exact ⟨Nat.le_succ _, Nat.le_succ _⟩
      · refine ⟨Nat.le_succ_of_le (List.length_filter_le _ _), ?_⟩
        simp only
        omega
end Go.Proofs.YtllogmokadcfmaaGreat.Trail
/-
  Plain mathematics of the law TrailFalls: what is noted of a name at the end of each level is what is known by the entries up to it. No program.
-/
namespace Go.Proofs.YtllogmokadcfmaaGreat.Trail
open Go.RowKit Go.Lib Go.Proofs.YtllogmokadcfmaaGreat.Label Go.Proofs.YtllogmokadcfmaaGreat.Span Go.Proofs.YtllogmokadcfmaaGreat.Need Go.Proofs.YtllogmokadcfmaaGreat.Pick Go.Proofs.YtllogmokadcfmaaGreat.Term Go.Proofs.YtllogmokadcfmaaGreat.Clash Go.Proofs.YtllogmokadcfmaaGreat.Fact
set_option linter.unusedVariables false
def KnownAt (x : Tr) (n : ByteArray) (K : List Tm) : Prop := K.length = x.level + 1 ∧ ∀ k, k ≤ x.level → K[k]? = some (knowL (upTo x.l k) n)
section
variable {x : Tr} {n : ByteArray} {K : List Tm}
end
end Go.Proofs.YtllogmokadcfmaaGreat.Trail
/-
  Plain mathematics of a trail kept in a line: the number of each name's last entry, by how many entries a term is known, where levels begin, what the picks come to that are put in order at once. No program.
-/
namespace Go.Proofs.YtllogmokadcfmaaGreat.Trail
open Go.RowKit Go.Lib Go.Proofs.YtllogmokadcfmaaGreat.Label Go.Proofs.YtllogmokadcfmaaGreat.Span Go.Proofs.YtllogmokadcfmaaGreat.Need Go.Proofs.YtllogmokadcfmaaGreat.Pick Go.Proofs.YtllogmokadcfmaaGreat.Term Go.Proofs.YtllogmokadcfmaaGreat.Clash Go.Proofs.YtllogmokadcfmaaGreat.Fact
set_option linter.unusedVariables false
def noStep (nm : ByteArray) (p : Nat × Nat) (e : Ent) : Nat × Nat := (p.1 + 1, if e.term.name = nm then p.1 + 1 else p.2)
def lastNo (l : List Ent) (nm : ByteArray) : Nat := (l.foldl (noStep nm) (0, 0)).2
theorem no_fst (nm : ByteArray) (l : List Ent) : ∀ p : Nat × Nat, (l.foldl (noStep nm) p).1 = p.1 + l.length := by
  induction l with
  | nil => intro p; rfl
  | cons e r ih =>
    intro p
    rw [List.foldl_cons, ih]
    show p.1 + 1 + r.length = p.1 + (r.length + 1)
    omega
theorem last_snoc (l : List Ent) (e : Ent) (nm : ByteArray) : lastNo (l ++ [e]) nm = if e.term.name = nm then l.length + 1 else lastNo l nm := by
  have h := no_fst nm l (0, 0)
  unfold lastNo
  rw [List.foldl_append]
  show (if e.term.name = nm then (l.foldl (noStep nm) (0, 0)).1 + 1 else (l.foldl (noStep nm) (0, 0)).2) = _
  rw [h]
  simp
theorem last_take {l : List Ent} {k : Nat} {e : Ent} (h : l[k]? = some e) (nm : ByteArray) : lastNo (l.take (k + 1)) nm = if e.term.name = nm then k + 1 else lastNo (l.take k) nm := by
  have hk := (List.getElem?_eq_some_iff.1 h).1
  have e1 : (l.take k).length = k := by rw [List.length_take]; omega
  rw [List.take_add_one, h]
  show lastNo (l.take k ++ [e]) nm = _
  rw [last_snoc, e1]
theorem last_le {l : List Ent} (nm : ByteArray) : ∀ k, k ≤ l.length → lastNo (l.take k) nm ≤ k := by
  intro k
  induction k with
  | zero => intro _; exact Nat.le_refl _
  | succ k ih =>
    intro hk
    have hx : l[k]? = some (l[k]'(by omega)) := by simp
    rw [last_take hx]
    have := ih (by omega)
    split <;> omega
theorem last_name {l : List Ent} (nm : ByteArray) : ∀ k, k ≤ l.length → ∀ i, lastNo (l.take k) nm = i + 1 → ∃ e, l[i]? = some e ∧ e.term.name = nm := by
  intro k
  induction k with
  | zero => intro _ i h; cases h
  | succ k ih =>
    intro hk i h
    have hx : l[k]? = some (l[k]'(by omega)) := by simp
    rw [last_take hx] at h
    split at h
    · rename_i hn
      have : k = i := by omega
      subst this
      exact ⟨_, hx, hn⟩
    · exact ih (by omega) i h
theorem last_mono {l : List Ent} (nm : ByteArray) {a : Nat} : ∀ b, a ≤ b → b ≤ l.length → lastNo (l.take a) nm ≤ lastNo (l.take b) nm := by
  intro b
  induction b with
  | zero =>
    intro h _
    have : a = 0 := by omega
    rw [this]
    exact Nat.le_refl _
  | succ b ih =>
    intro h hb
    by_cases e : a = b + 1
    · rw [e]; exact Nat.le_refl _
    · have h1 := ih (by omega) (by omega)
      have hx : l[b]? = some (l[b]'(by omega)) := by simp
      rw [last_take hx]
      have := last_le (l := l) nm b (by omega)
      split <;> omega
theorem last_ge {l : List Ent} {nm : ByteArray} {i k : Nat} {e : Ent} (h : l[i]? = some e) (hn : e.term.name = nm) (hi : i < k) (hk : k ≤ l.length) : i + 1 ≤ lastNo (l.take k) nm := by
  have h1 := last_take h nm
  rw [if_pos hn] at h1
  have := last_mono (l := l) nm (a := i + 1) k hi hk
  omega
theorem know_last {l : List Ent} (nm : ByteArray) : ∀ k, k ≤ l.length → knowL (l.take k) nm = knowL (l.take (lastNo (l.take k) nm)) nm := by
  intro k
  induction k with
  | zero => intro _; rfl
  | succ k ih =>
    intro hk
    have hx : l[k]? = some (l[k]'(by omega)) := by simp
    rw [last_take hx]
    split
    · rfl
    · rename_i hn
      rw [know_take hx, if_neg hn]
      exact ih (by omega)
def IsNo (l : List Ent) (i : Nat) (nm : ByteArray) : Prop := i ≤ l.length ∧ ∀ j, i = j + 1 → ∃ e, l[j]? = some e ∧ e.term.name = nm
theorem isNo_last {l : List Ent} (nm : ByteArray) {k : Nat} (hk : k ≤ l.length) : IsNo l (lastNo (l.take k) nm) nm :=
  ⟨Nat.le_trans (last_le nm k hk) hk, fun j hj => last_name nm k hk j hj⟩
theorem isNo_all (l : List Ent) (nm : ByteArray) : IsNo l (lastNo l nm) nm := by
  have := isNo_last (l := l) nm (Nat.le_refl _)
  rwa [List.take_length] at this
theorem know_all (l : List Ent) (nm : ByteArray) : knowL l nm = knowL (l.take (lastNo l nm)) nm := by
  have := know_last (l := l) nm _ (Nat.le_refl _)
  rwa [List.take_length] at this
theorem take_min (l : List Ent) (K : Nat) : l.take (min K l.length) = l.take K := by
  rcases Nat.le_total K l.length with h | h
  · rw [Nat.min_eq_left h]
  · rw [Nat.min_eq_right h, List.take_length, List.take_of_length_le h]
theorem know_exit {l : List Ent} {nm : ByteArray} {i K : Nat} (h : IsNo l i nm) (hl : lastNo (l.take (min K l.length)) nm ≤ i) (hi : i ≤ K) : knowL (l.take i) nm = knowL (l.take K) nm := by
  have hm : min K l.length ≤ l.length := Nat.min_le_right _ _
  have e : lastNo (l.take (min K l.length)) nm = i := by
    rcases i with _ | j
    · omega
    · obtain ⟨e, h1, h2⟩ := h.2 j rfl
      have h3 := h.1
      have := last_ge (k := min K l.length) h1 h2 (by omega) hm
      omega
  rw [← take_min l K, know_last nm _ hm, e]
theorem last_step {l : List Ent} {nm : ByteArray} {i K : Nat} (hK : K ≤ i) (hi : i ≤ l.length) : lastNo (l.take (min K l.length)) nm ≤ lastNo (l.take i) nm :=
  last_mono nm i (Nat.le_trans (Nat.min_le_left _ _) hK) hi
/-! By how many entries a term is known. -/
theorem within_iff {a b : Tm} : withinT a b = true ↔ a.name = b.name ∧ (∀ p, 0 ≤ p → p < 1000000000 → has a.set p = true → has b.set p = true) ∧ (a.none = true → b.none = true) := by
  have e : lessS a.set b.set = [] ↔ ∀ p, 0 ≤ p → p < 1000000000 → (has a.set p && !has b.set p) = false := nf_nil
  unfold withinT
  simp only [Bool.and_eq_true, decide_eq_true_eq]
  rw [e]
  constructor
  · rintro ⟨h1, h2, h3⟩
    refine ⟨h1, fun p p0 p1 hp => ?_, fun hz => ?_⟩
    · have := h2 p p0 p1
      rw [hp] at this
      simpa using this
    · rw [hz] at h3
      simpa using h3
  · rintro ⟨h1, h2, h3⟩
    refine ⟨h1, fun p p0 p1 => ?_, ?_⟩
    · cases hp : has a.set p with
      | false => rfl
      | true => rw [h2 p p0 p1 hp]; rfl
    · cases hz : a.none with
      | false => simp
      | true => rw [h3 hz]; rfl
theorem within_trans {a b c : Tm} (h : withinT a b = true) (h2 : withinT b c = true) : withinT a c = true := by
  obtain ⟨a1, a2, a3⟩ := within_iff.1 h
  obtain ⟨b1, b2, b3⟩ := within_iff.1 h2
  exact within_iff.2 ⟨a1.trans b1, fun p p0 p1 hp => b2 p p0 p1 (a2 p p0 p1 hp), fun hz => b3 (a3 hz)⟩
theorem know_mono (l : List Ent) (nm : ByteArray) (a : Nat) : ∀ d, withinT (knowL (l.take (a + d)) nm) (knowL (l.take a) nm) = true := by
  intro d
  induction d with
  | zero => exact within_self _
  | succ d ih =>
    cases hx : l[a + d]? with
    | none =>
      have e : l.take (a + (d + 1)) = l.take (a + d) := by
        rw [show a + (d + 1) = a + d + 1 by omega, List.take_add_one, hx]
        simp
      rw [e]
      exact ih
    | some e =>
      have e1 : l.take (a + (d + 1)) = l.take (a + d) ++ [e] := by
        rw [show a + (d + 1) = a + d + 1 by omega, List.take_add_one, hx]
        rfl
      rw [e1]
      exact within_trans (know_less _ _ _) ih
noncomputable def inAt (l : List Ent) (t : Tm) (k : Nat) : Bool := withinT (knowL (l.take k) t.name) t
theorem in_mono {l : List Ent} {t : Tm} {a b : Nat} (hab : a ≤ b) (h : inAt l t a = true) : inAt l t b = true := by
  obtain ⟨d, rfl⟩ : ∃ d, b = a + d := ⟨b - a, by omega⟩
  exact within_trans (know_mono l t.name a d) h
theorem in_not {l : List Ent} {t : Tm} {a b : Nat} (hab : a ≤ b) (h : inAt l t b = false) : inAt l t a = false := by
  cases e : inAt l t a with
  | false => rfl
  | true => rw [in_mono hab e] at h; cases h
theorem allIn_iff {l : List Ent} {c : List Tm} {k : Nat} : allIn l c k = true ↔ ∀ t ∈ c, inAt l t k = true := by
  unfold allIn
  rw [List.all_eq_true]
  exact Iff.rfl
theorem allIn_not {l : List Ent} {c : List Tm} {k : Nat} {t : Tm} (ht : t ∈ c) (h : inAt l t k = false) : allIn l c k = false := by
  cases e : allIn l c k with
  | false => rfl
  | true => rw [allIn_iff.1 e t ht] at h; cases h
def SinceOk (l : List Ent) (t : Tm) (r : Int) : Prop := (r = -1 ∧ ∀ k, k ≤ l.length → inAt l t k = false) ∨ ∃ n : Nat, r = (n : Int) ∧ n ≤ l.length ∧ inAt l t n = true ∧ ∀ k, k < n → inAt l t k = false
theorem in_all (l : List Ent) (t : Tm) : inAt l t l.length = inAt l t (lastNo l t.name) := by
  unfold inAt
  rw [List.take_length, ← know_all]
theorem since_none {l : List Ent} {t : Tm} (h : inAt l t (lastNo l t.name) = false) : SinceOk l t (-1) := .inl ⟨rfl, fun k hk => in_not hk (by rw [in_all]; exact h)⟩
theorem since_here {l : List Ent} {t : Tm} {i : Nat} (hi : i + 1 ≤ l.length) (h1 : inAt l t (i + 1) = true) (h2 : inAt l t (lastNo (l.take i) t.name) = false) : SinceOk l t ((i + 1 : Nat) : Int) := by
  have e : inAt l t i = false := by
    unfold inAt at h2 ⊢
    rw [know_last t.name i (by omega)]
    exact h2
  exact .inr ⟨i + 1, rfl, hi, h1, fun k hk => in_not (by omega) e⟩
theorem since_zero {l : List Ent} {t : Tm} (h : inAt l t 0 = true) : SinceOk l t ((0 : Nat) : Int) := .inr ⟨0, rfl, Nat.zero_le _, h, fun k hk => absurd hk (Nat.not_lt_zero _)⟩
structure FirstOk (l : List Ent) (c : List Tm) (j n : Nat) : Prop where
  le : n ≤ l.length
  all : ∀ t ∈ c.take j, inAt l t n = true
  none : ∀ k, k < n → allIn l c k = false
theorem FirstOk.start (l : List Ent) (c : List Tm) : FirstOk l c 0 0 := ⟨Nat.zero_le _, fun t ht => by simp at ht, fun k hk => absurd hk (Nat.not_lt_zero _)⟩
theorem FirstOk.step {l : List Ent} {c : List Tm} {j n m : Nat} {t : Tm} (h : FirstOk l c j n) (ht : c[j]? = some t) (hs : SinceOk l t (m : Int)) : FirstOk l c (j + 1) (max n m) := by
  rcases hs with ⟨e, _⟩ | ⟨m', e, h1, h2, h3⟩
  · omega
  have e' : m = m' := by omega
  subst e'
  refine ⟨by have := h.le; omega, fun u hu => ?_, fun k hk => ?_⟩
  · rw [List.take_add_one, ht] at hu
    rcases List.mem_append.1 hu with hu | hu
    · exact in_mono (Nat.le_max_left _ _) (h.all u hu)
    · simp at hu
      subst hu
      exact in_mono (Nat.le_max_right _ _) h2
  · by_cases hkn : k < n
    · exact h.none k hkn
    · exact allIn_not (List.mem_of_getElem? ht) (h3 k (by omega))
theorem FirstOk.done {l : List Ent} {c : List Tm} {j n : Nat} (h : FirstOk l c j n) (hj : c.length ≤ j) : firstT l c = (n : Int) :=
  first_here h.le h.none (allIn_iff.2 fun t ht => h.all t (by rw [List.take_of_length_le hj]; exact ht))
theorem first_never {l : List Ent} {c : List Tm} {t : Tm} (ht : t ∈ c) (hs : SinceOk l t (-1)) : firstT l c = -1 := by
  rcases hs with ⟨_, h⟩ | ⟨m, e, _⟩
  · exact first_none fun k hk => allIn_not ht (h k hk)
  · omega
/-! Where levels begin. -/
def decd (e : Ent) : Bool := decide (e.cause < 0)
structure BegOk (x : Tr) (bs : List Nat) : Prop where
  len : bs.length = x.level
  all : (x.l.filter decd).length = x.level
  low : ∀ e ∈ x.l, e.level ≤ x.level
  at_ : ∀ K i, bs[K]? = some i → ∃ e, x.l[i]? = some e ∧ e.cause < 0 ∧ e.level = K + 1 ∧ ((x.l.take i).filter decd).length = K ∧ ∀ j q, x.l[j]? = some q → (j < i ↔ q.level ≤ K)
theorem BegOk.new : BegOk ⟨[], 0⟩ [] := ⟨rfl, rfl, fun e he => by (cases he), fun K i h => by simp at h⟩
theorem get_snoc {α : Type} {l : List α} {a b : α} {j : Nat} (h : (l ++ [a])[j]? = some b) : l[j]? = some b ∨ (j = l.length ∧ b = a) := by
  rcases Nat.lt_or_ge j l.length with hj | hj
  · rw [List.getElem?_append_left hj] at h
    exact .inl h
  · have hlt := (List.getElem?_eq_some_iff.1 h).1
    rw [List.length_append, List.length_singleton] at hlt
    have e : j = l.length := by omega
    subst e
    simp at h
    exact .inr ⟨rfl, h.symm⟩
theorem BegOk.derive {x : Tr} {bs : List Nat} (h : BegOk x bs) (t : Tm) {c : Int} (hc : 0 ≤ c) : BegOk (putT x t c) bs := by
  refine ⟨h.len, ?_, fun e he => ?_, fun K i hi => ?_⟩
  · show ((x.l ++ [_]).filter decd).length = x.level
    have : decd ⟨t, x.level, c⟩ = false := by unfold decd; simp; omega
    rw [List.filter_append, List.filter_cons_of_neg (by rw [this]; simp), List.filter_nil, List.append_nil]
    exact h.all
  · rcases List.mem_append.1 he with he | he
    · exact h.low e he
    · rw [List.mem_singleton.1 he]; exact Nat.le_refl _
  · have hK : K < x.level := by rw [← h.len]; exact (List.getElem?_eq_some_iff.1 hi).1
    obtain ⟨e, h1, h2, h3, h4, h5⟩ := h.at_ K i hi
    have hil := (List.getElem?_eq_some_iff.1 h1).1
    refine ⟨e, ?_, h2, h3, ?_, fun j q hq => ?_⟩
    · show (x.l ++ [_])[i]? = _
      rw [List.getElem?_append_left hil]
      exact h1
    · show (((x.l ++ [_]).take i).filter decd).length = K
      rw [List.take_append_of_le_length (by omega)]
      exact h4
    · rcases get_snoc hq with hq | ⟨rfl, rfl⟩
      · exact h5 j q hq
      · constructor
        · intro g; omega
        · intro g
          have g : x.level ≤ K := g
          omega
theorem BegOk.decide {x : Tr} {bs : List Nat} (h : BegOk x bs) (t : Tm) : BegOk (putT { x with level := x.level + 1 } t (-1)) (bs ++ [x.l.length]) := by
  refine ⟨?_, ?_, fun e he => ?_, fun K i hi => ?_⟩
  · rw [List.length_append, h.len]; rfl
  · show ((x.l ++ [_]).filter decd).length = x.level + 1
    rw [List.filter_append, List.length_append, h.all]
    rfl
  · rcases List.mem_append.1 he with he | he
    · exact Nat.le_succ_of_le (h.low e he)
    · rw [List.mem_singleton.1 he]; exact Nat.le_refl _
  · rcases get_snoc hi with hi | ⟨rfl, rfl⟩
    · have hK : K < x.level := by rw [← h.len]; exact (List.getElem?_eq_some_iff.1 hi).1
      obtain ⟨e, h1, h2, h3, h4, h5⟩ := h.at_ K i hi
      have hil := (List.getElem?_eq_some_iff.1 h1).1
      refine ⟨e, ?_, h2, h3, ?_, fun j q hq => ?_⟩
      · show (x.l ++ [_])[i]? = _
        rw [List.getElem?_append_left hil]
        exact h1
      · show (((x.l ++ [_]).take i).filter decd).length = K
        rw [List.take_append_of_le_length (by omega)]
        exact h4
      · rcases get_snoc hq with hq | ⟨rfl, rfl⟩
        · exact h5 j q hq
        · constructor
          · intro g
            have g : x.l.length < i := g
            omega
          · intro g
            have g : x.level + 1 ≤ K := g
            omega
    · have hl := h.len
      refine ⟨⟨t, x.level + 1, -1⟩, ?_, by show (-1 : Int) < 0; decide, by rw [hl], ?_, fun j q hq => ?_⟩
      · show (x.l ++ [_])[x.l.length]? = _
        simp
      · show (((x.l ++ [_]).take x.l.length).filter decd).length = bs.length
        rw [List.take_append_of_le_length (Nat.le_refl _), List.take_length, hl]
        exact h.all
      · rcases get_snoc hq with hq | ⟨rfl, rfl⟩
        · have h1 := (List.getElem?_eq_some_iff.1 hq).1
          have h2 := h.low q (List.mem_of_getElem? hq)
          rw [hl]
          exact ⟨fun _ => h2, fun _ => h1⟩
        · constructor
          · intro g
            have g : x.l.length < x.l.length := g
            omega
          · intro g
            have g : x.level + 1 ≤ bs.length := g
            omega
theorem filter_take {l : List Ent} (p : Ent → Bool) : ∀ i, (∀ j q, l[j]? = some q → (j < i ↔ p q = true)) → l.filter p = l.take i := by
  induction l with
  | nil => intro i _; simp
  | cons a r ih =>
    intro i h
    rcases i with _ | i
    · rw [List.take_zero, List.filter_eq_nil_iff]
      intro q hq hp
      obtain ⟨j, hj, rfl⟩ := List.getElem_of_mem hq
      exact absurd ((h j _ (List.getElem?_eq_getElem hj)).2 hp) (Nat.not_lt_zero _)
    · have h0 : p a = true := (h 0 a rfl).1 (by omega)
      rw [List.filter_cons_of_pos h0, List.take_succ_cons, ih i fun j q hq => ?_]
      have := h (j + 1) q (by simpa using hq)
      rw [← this]
      omega
theorem BegOk.cut {x : Tr} {bs : List Nat} (h : BegOk x bs) {K i : Nat} (hi : bs[K]? = some i) : upTo x.l K = x.l.take i ∧ BegOk ⟨x.l.take i, K⟩ (bs.take K) ∧ i < x.l.length ∧ K < x.level := by
  obtain ⟨e, h1, h2, h3, h4, h5⟩ := h.at_ K i hi
  have hil := (List.getElem?_eq_some_iff.1 h1).1
  have hKb := (List.getElem?_eq_some_iff.1 hi).1
  have hK : K < x.level := by rw [← h.len]; exact hKb
  refine ⟨filter_take _ i fun j q hq => by rw [h5 j q hq]; simp, ⟨by rw [List.length_take]; show min K bs.length = K; omega, h4, fun q hq => ?_, fun K' i' hi' => ?_⟩, hil, hK⟩
  · obtain ⟨j, hj, rfl⟩ := List.getElem_of_mem hq
    rw [List.length_take] at hj
    rw [List.getElem_take]
    exact (h5 j _ (List.getElem?_eq_getElem (by omega))).1 (by omega)
  · have hK' := (List.getElem?_eq_some_iff.1 hi').1
    rw [List.length_take] at hK'
    rw [List.getElem?_take_of_lt (by omega)] at hi'
    obtain ⟨e', g1, g2, g3, g4, g5⟩ := h.at_ K' i' hi'
    have hii : i' < i := (h5 i' e' g1).2 (by omega)
    refine ⟨e', ?_, g2, g3, ?_, fun j q hq => ?_⟩
    · show (x.l.take i)[i']? = _
      rw [List.getElem?_take_of_lt hii]
      exact g1
    · show (((x.l.take i).take i').filter decd).length = K'
      rw [List.take_take, Nat.min_eq_left (by omega)]
      exact g4
    · have hq : (x.l.take i)[j]? = some q := hq
      have hj := (List.getElem?_eq_some_iff.1 hq).1
      rw [List.length_take] at hj
      rw [List.getElem?_take_of_lt (by omega)] at hq
      exact g5 j q hq
/-! What the picks come to. -/
def pickOf (e : Ent) : Pk := (e.term.name, (e.term.set.headD (0, 0)).1)
def picksL (l : List Ent) : List Pk := (l.filter decd).map pickOf
theorem BegOk.pick {x : Tr} {bs : List Nat} (h : BegOk x bs) {K i : Nat} (hi : bs[K]? = some i) : ∃ e, x.l[i]? = some e ∧ e.cause < 0 ∧ (picksL x.l)[K]? = some (pickOf e) := by
  obtain ⟨e, h1, h2, h3, h4, h5⟩ := h.at_ K i hi
  have hil := (List.getElem?_eq_some_iff.1 h1).1
  refine ⟨e, h1, h2, ?_⟩
  have e1 : x.l = x.l.take i ++ x.l.drop i := (List.take_append_drop i x.l).symm
  have e2 : x.l.drop i = e :: x.l.drop (i + 1) := by
    rw [List.drop_eq_getElem_cons hil]
    congr 1
    have := List.getElem?_eq_getElem hil
    rw [h1] at this
    injection this with this
    exact this.symm
  have hd : decd e = true := by unfold decd; simpa using h2
  unfold picksL
  rw [List.getElem?_map]
  have e3 : (x.l.filter decd)[K]? = some e := by
    rw [e1, List.filter_append, List.getElem?_append_right (by omega), h4, Nat.sub_self, e2, List.filter_cons_of_pos hd]
    rfl
  rw [e3]
  rfl
theorem BegOk.picks_len {x : Tr} {bs : List Nat} (h : BegOk x bs) : (picksL x.l).length = bs.length := by
  unfold picksL
  rw [List.length_map, h.all, h.len]
structure DecOk (l : List Ent) : Prop where
  one : ∀ e ∈ l, e.cause < 0 → ∃ v, verOk v = true ∧ e.term.set = atS v
  same : ∀ a ∈ l, ∀ b ∈ l, a.cause < 0 → b.cause < 0 → a.term.name = b.term.name → a.term.set = b.term.set
theorem DecOk.nil : DecOk [] := ⟨fun e he => by (cases he), fun e he => by (cases he)⟩
theorem DecOk.take {l : List Ent} (h : DecOk l) (i : Nat) : DecOk (l.take i) := ⟨fun e he => h.one e (List.mem_of_mem_take he), fun a ha b hb => h.same a (List.mem_of_mem_take ha) b (List.mem_of_mem_take hb)⟩
theorem DecOk.derive {l : List Ent} (h : DecOk l) (e : Ent) (hc : 0 ≤ e.cause) : DecOk (l ++ [e]) := by
  have key : ∀ a, a ∈ l ++ [e] → a.cause < 0 → a ∈ l := fun a ha hn => by
    rcases List.mem_append.1 ha with ha | ha
    · exact ha
    · rw [List.mem_singleton.1 ha] at hn; omega
  exact ⟨fun a ha hn => h.one a (key a ha hn) hn, fun a ha b hb hn hm => h.same a (key a ha hn) b (key b hb hm) hn hm⟩
theorem know_in {l : List Ent} {nm : ByteArray} {v : Int} (v0 : 0 ≤ v) (v1 : v < 1000000000) : ∀ k, k ≤ l.length → has (knowL (l.take k) nm).set v = true → ∀ i e, i < k → l[i]? = some e → e.term.name = nm → has e.term.set v = true := by
  intro k
  induction k with
  | zero => intro _ _ i e hi; omega
  | succ k ih =>
    intro hk hh i e hi he hn
    have hx : l[k]? = some (l[k]'(by omega)) := by simp
    rw [know_take hx] at hh
    by_cases hik : i = k
    · subst hik
      rw [hx] at he
      injection he with he
      rw [he] at hh
      rw [if_pos hn, meet_same (by rw [know_name, hn]), m_has _ _ v0 v1] at hh
      simp only [Bool.and_eq_true] at hh
      exact hh.2
    · split at hh
      · rename_i hn2
        rw [meet_same (by rw [know_name, hn2]), m_has _ _ v0 v1] at hh
        simp only [Bool.and_eq_true] at hh
        exact ih (by omega) hh.1 i e (by omega) he hn
      · exact ih (by omega) hh i e (by omega) he hn
theorem DecOk.decide {l : List Ent} (h : DecOk l) {n : ByteArray} {v : Int} (hv : verOk v = true) (hh : has (knowL l n).set v = true) (lv : Nat) : DecOk (l ++ [⟨⟨n, atS v, false⟩, lv, -1⟩]) := by
  obtain ⟨v0, v1⟩ := verOk_iff.1 hv
  have old : ∀ a ∈ l, a.cause < 0 → a.term.name = n → a.term.set = atS v := fun a ha hn hm => by
    obtain ⟨va, g1, g2⟩ := h.one a ha hn
    obtain ⟨i, hi, rfl⟩ := List.getElem_of_mem ha
    have := know_in (l := l) (nm := n) v0 v1 l.length (Nat.le_refl _) (by rw [List.take_length]; exact hh) i _ hi (List.getElem?_eq_getElem hi) hm
    rw [g2, Fact.has_one] at this
    rw [g2, of_decide_eq_true this]
  refine ⟨fun a ha hn => ?_, fun a ha b hb hn hm hab => ?_⟩
  · rcases List.mem_append.1 ha with ha | ha
    · exact h.one a ha hn
    · rw [List.mem_singleton.1 ha]; exact ⟨v, hv, rfl⟩
  · rcases List.mem_append.1 ha with ha | ha
    · rcases List.mem_append.1 hb with hb | hb
      · exact h.same a ha b hb hn hm hab
      · rw [List.mem_singleton.1 hb] at hab ⊢
        exact old a ha hn hab
    · rcases List.mem_append.1 hb with hb | hb
      · rw [List.mem_singleton.1 ha] at hab ⊢
        exact (old b hb hm hab.symm).symm
      · rw [List.mem_singleton.1 ha, List.mem_singleton.1 hb]
theorem picksL_mem {l : List Ent} {q : Pk} : q ∈ picksL l ↔ ∃ e ∈ l, e.cause < 0 ∧ q = pickOf e := by
  unfold picksL
  rw [List.mem_map]
  constructor
  · rintro ⟨e, he, rfl⟩
    obtain ⟨h1, h2⟩ := List.mem_filter.1 he
    exact ⟨e, h1, of_decide_eq_true h2, rfl⟩
  · rintro ⟨e, h1, h2, rfl⟩
    exact ⟨e, List.mem_filter.2 ⟨h1, decide_eq_true h2⟩, rfl⟩
theorem DecOk.one_pick {l : List Ent} (h : DecOk l) {p q : Pk} (hp : p ∈ picksL l) (hq : q ∈ picksL l) (e : p.1 = q.1) : p = q := by
  obtain ⟨a, ha, ha2, rfl⟩ := picksL_mem.1 hp
  obtain ⟨b, hb, hb2, rfl⟩ := picksL_mem.1 hq
  have := h.same a ha b hb ha2 hb2 e
  unfold pickOf
  rw [this, show a.term.name = b.term.name from e]
theorem putP_rises {l : List Pk} (h : RisesP l) (p : Pk) : RisesP (putP l p) := insP_rises (dropP_rises h _) drop_ne
theorem putP_mem {l : List Pk} {p q : Pk} : q ∈ putP l p ↔ q = p ∨ (q ∈ l ∧ q.1 ≠ p.1) := by
  unfold putP
  rw [insP_mem, dropP_mem]
theorem picksT_is {l : List Ent} (h : DecOk l) : ∀ k, k ≤ l.length → RisesP (picksT (l.take k)) ∧ ∀ q, q ∈ picksT (l.take k) ↔ q ∈ picksL (l.take k) := by
  intro k
  induction k with
  | zero => intro _; exact ⟨List.Pairwise.nil, fun q => Iff.rfl⟩
  | succ k ih =>
    intro hk
    obtain ⟨h1, h2⟩ := ih (by omega)
    have hx : l[k]? = some (l[k]'(by omega)) := by simp
    have e1 : l.take (k + 1) = l.take k ++ [l[k]'(by omega)] := by rw [List.take_add_one, hx]; rfl
    rw [picks_take hx]
    unfold pickE
    by_cases hc : (l[k]'(by omega)).cause < 0
    · rw [if_pos hc]
      refine ⟨putP_rises h1 _, fun q => ?_⟩
      rw [putP_mem, h2, picksL_mem, picksL_mem]
      constructor
      · rintro (rfl | ⟨⟨e, he, he2, rfl⟩, _⟩)
        · exact ⟨l[k]'(by omega), by rw [e1]; exact List.mem_append_right _ (List.mem_singleton.2 rfl), hc, rfl⟩
        · exact ⟨e, by rw [e1]; exact List.mem_append_left _ he, he2, rfl⟩
      · rintro ⟨e, he, he2, rfl⟩
        rw [e1] at he
        rcases List.mem_append.1 he with he | he
        · by_cases hn : (pickOf e).1 = (pickOf (l[k]'(by omega))).1
          · left
            exact (DecOk.one_pick h (picksL_mem.2 ⟨e, List.mem_of_mem_take he, he2, rfl⟩) (picksL_mem.2 ⟨_, List.getElem_mem _, hc, rfl⟩) hn)
          · right
            exact ⟨⟨e, he, he2, rfl⟩, hn⟩
        · rw [List.mem_singleton.1 he]
          left
          rfl
    · rw [if_neg hc]
      refine ⟨h1, fun q => ?_⟩
      rw [h2, picksL_mem, picksL_mem]
      constructor
      · rintro ⟨e, he, he2, rfl⟩
        exact ⟨e, by rw [e1]; exact List.mem_append_left _ he, he2, rfl⟩
      · rintro ⟨e, he, he2, rfl⟩
        rw [e1] at he
        rcases List.mem_append.1 he with he | he
        · exact ⟨e, he, he2, rfl⟩
        · rw [List.mem_singleton.1 he] at he2
          exact absurd he2 hc
theorem rises_ext {a b : List Pk} (ha : RisesP a) (hb : RisesP b) (h : ∀ q, q ∈ a ↔ q ∈ b) : a = b := by
  refine same_get ha hb fun x => ?_
  cases e : getP a x with
  | some v => exact (getP_mem hb ((h _).1 (getP_in e))).symm
  | none =>
    cases e2 : getP b x with
    | none => rfl
    | some v =>
      have := getP_mem ha ((h _).2 (getP_in e2))
      rw [e] at this
      cases this
def compS (o : List Pk) (e : Pk) : List Pk := if o.getLast? = some e then o else o ++ [e]
def compL (l : List Pk) : List Pk := l.foldl compS []
theorem comp_snoc (l : List Pk) (e : Pk) : compL (l ++ [e]) = compS (compL l) e := by
  unfold compL
  rw [List.foldl_append]
  rfl
theorem comp_take {l : List Pk} {k : Nat} {e : Pk} (h : l[k]? = some e) : compL (l.take (k + 1)) = compS (compL (l.take k)) e := by
  rw [List.take_add_one, h]
  exact comp_snoc _ e
theorem comp_last {l : List Pk} {k : Nat} {e : Pk} (h : l[k]? = some e) : (compL (l.take (k + 1))).getLast? = some e := by
  rw [comp_take h]
  unfold compS
  split
  · rename_i g; exact g
  · simp
theorem comp_next {l : List Pk} {k : Nat} {e p : Pk} (h : l[k + 1]? = some e) (hp : l[k]? = some p) : compL (l.take (k + 2)) = if p = e then compL (l.take (k + 1)) else compL (l.take (k + 1)) ++ [e] := by
  rw [comp_take h]
  unfold compS
  rw [comp_last hp]
  by_cases g : p = e
  · rw [if_pos g, if_pos (by rw [g])]
  · rw [if_neg g, if_neg (by simpa using g)]
theorem comp_len (l : List Pk) : ∀ k, k ≤ l.length → (compL (l.take k)).length ≤ k := by
  intro k
  induction k with
  | zero => intro _; exact Nat.le_refl _
  | succ k ih =>
    intro hk
    have hx : l[k]? = some (l[k]'(by omega)) := by simp
    rw [comp_take hx]
    have := ih (by omega)
    unfold compS
    split
    · omega
    · rw [List.length_append, List.length_singleton]; omega
theorem comp_is {l : List Pk} (hs : l.Pairwise fun x y => nlt y.1 x.1 = false) (h1 : ∀ a ∈ l, ∀ b ∈ l, a.1 = b.1 → a = b) : ∀ k, k ≤ l.length → RisesP (compL (l.take k)) ∧ (∀ q, q ∈ compL (l.take k) ↔ q ∈ l.take k) := by
  intro k
  induction k with
  | zero => intro _; exact ⟨List.Pairwise.nil, fun q => by simp [compL]⟩
  | succ k ih =>
    intro hk
    obtain ⟨g1, g2⟩ := ih (by omega)
    have hx : l[k]? = some (l[k]'(by omega)) := by simp
    have e1 : l.take (k + 1) = l.take k ++ [l[k]'(by omega)] := by rw [List.take_add_one, hx]; rfl
    rw [comp_take hx]
    unfold compS
    split
    · rename_i hl
      refine ⟨g1, fun q => ?_⟩
      have hm : l[k]'(by omega) ∈ l.take k := (g2 _).1 (List.mem_of_getLast? hl)
      rw [g2, e1]
      constructor
      · exact fun h => List.mem_append_left _ h
      · intro h
        rcases List.mem_append.1 h with h | h
        · exact h
        · rw [List.mem_singleton.1 h]; exact hm
    · rename_i hl
      refine ⟨List.pairwise_append.2 ⟨g1, List.pairwise_singleton _ _, fun a ha b hb => ?_⟩, fun q => ?_⟩
      · rw [List.mem_singleton.1 hb]
        have ha' := (g2 a).1 ha
        obtain ⟨i, hi, hia⟩ := List.getElem_of_mem ha'
        rw [List.length_take] at hi
        rw [List.getElem_take] at hia
        have hord := (List.pairwise_iff_getElem.1 hs) i k (by omega) (by omega) (by omega)
        rw [hia] at hord
        rcases nlt_cases a.1 (l[k]'(by omega)).1 with h | h | h
        · exact h
        · exfalso
          have hak : a = l[k]'(by omega) := h1 a (List.mem_of_mem_take ha') _ (List.getElem_mem _) h
          -- the last one of the row stands at or behind a
          rcases k with _ | k'
          · omega
          · have hlast := comp_last (l := l) (k := k') (e := l[k']'(by omega)) (by simp)
            apply hl
            rw [hlast]
            congr 1
            have hik : i ≤ k' := by omega
            rcases Nat.lt_or_ge i k' with hlt | hge
            · have o1 := (List.pairwise_iff_getElem.1 hs) i k' (by omega) (by omega) hlt
              have o2 := (List.pairwise_iff_getElem.1 hs) k' (k' + 1) (by omega) (by omega) (by omega)
              rw [hia] at o1
              rw [← hak] at o2
              exact (h1 _ (List.getElem_mem _) _ (List.getElem_mem _) (by rw [← hak]; exact nlt_tri o1 o2))
            · have e : i = k' := by omega
              subst e
              rw [hia]
              exact hak
        · rw [h] at hord; cases hord
      · rw [e1, List.mem_append, List.mem_append, g2]
theorem picks_end {l : List Ent} {d : List Pk} (h : DecOk l) (hp : d.Perm (picksL l)) (hs : d.Pairwise fun x y => nlt y.1 x.1 = false) : compL d = picksT l := by
  have h1 := comp_is hs (fun a ha b hb e => h.one_pick (hp.mem_iff.1 ha) (hp.mem_iff.1 hb) e) d.length (Nat.le_refl _)
  have h2 := picksT_is h l.length (Nat.le_refl _)
  rw [List.take_length] at h1 h2
  exact rises_ext h1.1 h2.1 fun q => by rw [h1.2, hp.mem_iff, h2.2]
def lastF (l : List Ent) (x : ByteArray) : Option Int := if lastNo l x = 0 then none else some (lastNo l x : Int)
theorem lastF_put (l : List Ent) (e : Ent) (x : ByteArray) : lastF (l ++ [e]) x = if e.term.name = x then some ((l.length + 1 : Nat) : Int) else lastF l x := by
  unfold lastF
  rw [last_snoc]
  by_cases h : e.term.name = x
  · rw [if_pos h, if_pos h, if_neg (by omega)]
  · rw [if_neg h, if_neg h]
theorem lastF_pop {l : List Ent} {i : Nat} {e : Ent} (h : l[i]? = some e) (x : ByteArray) : lastF (l.take i) x = if e.term.name = x then (if lastNo (l.take i) e.term.name = 0 then none else some (lastNo (l.take i) e.term.name : Int)) else lastF (l.take (i + 1)) x := by
  unfold lastF
  rw [last_take h]
  by_cases g : e.term.name = x
  · rw [if_pos g, g]
  · rw [if_neg g, if_neg g]
theorem last_nat (l : List Ent) (x : ByteArray) : (lastF l x).getD 0 = (lastNo l x : Int) := by
  unfold lastF
  split
  · rename_i h; rw [h]; rfl
  · rfl
/-! How many names there are. -/
open Classical in
noncomputable def dnS (o : List ByteArray) (e : Ent) : List ByteArray := if e.term.name ∈ o then o else o ++ [e.term.name]
noncomputable def dnL (l : List Ent) : List ByteArray := l.foldl dnS []
theorem dn_snoc (l : List Ent) (e : Ent) : dnL (l ++ [e]) = dnS (dnL l) e := by
  unfold dnL
  rw [List.foldl_append]
  rfl
theorem dn_take {l : List Ent} {k : Nat} {e : Ent} (h : l[k]? = some e) : dnL (l.take (k + 1)) = dnS (dnL (l.take k)) e := by
  rw [List.take_add_one, h]
  exact dn_snoc _ e
theorem dn_mem {l : List Ent} : ∀ k, k ≤ l.length → ∀ nm, nm ∈ dnL (l.take k) ↔ lastNo (l.take k) nm ≠ 0 := by
  intro k
  induction k with
  | zero => intro _ nm; exact ⟨fun h => by (cases h), fun h => absurd rfl h⟩
  | succ k ih =>
    intro hk nm
    have hx : l[k]? = some (l[k]'(by omega)) := by simp
    rw [dn_take hx, last_take hx]
    have := ih (by omega) nm
    unfold dnS
    by_cases hn : (l[k]'(by omega)).term.name = nm
    · rw [if_pos hn]
      refine ⟨fun _ => by omega, fun _ => ?_⟩
      split
      · rename_i hm; rw [← hn]; exact hm
      · rw [← hn]; simp
    · rw [if_neg hn, ← this]
      split
      · exact Iff.rfl
      · rw [List.mem_append, List.mem_singleton]
        exact ⟨fun h => h.elim id fun e => absurd e.symm hn, Or.inl⟩
theorem dn_len {l : List Ent} : ∀ k, k ≤ l.length → (dnL (l.take k)).length ≤ k := by
  intro k
  induction k with
  | zero => intro _; exact Nat.le_refl _
  | succ k ih =>
    intro hk
    have hx : l[k]? = some (l[k]'(by omega)) := by simp
    rw [dn_take hx]
    have := ih (by omega)
    unfold dnS
    split
    · omega
    · rw [List.length_append, List.length_singleton]; omega
noncomputable def cntN (l : List Ent) : Nat := (dnL l).length
theorem cnt_le (l : List Ent) : cntN l ≤ l.length := by
  have := dn_len (l := l) _ (Nat.le_refl _)
  rwa [List.take_length] at this
theorem cnt_snoc (l : List Ent) (e : Ent) : cntN (l ++ [e]) = cntN l + (if lastNo l e.term.name = 0 then 1 else 0) := by
  have h := dn_mem (l := l) _ (Nat.le_refl _) e.term.name
  rw [List.take_length] at h
  unfold cntN
  rw [dn_snoc]
  unfold dnS
  by_cases g : e.term.name ∈ dnL l
  · rw [if_pos g, if_neg (h.1 g)]; rfl
  · rw [if_neg g, if_pos (by
      by_cases z : lastNo l e.term.name = 0
      · exact z
      · exact absurd (h.2 z) g), List.length_append, List.length_singleton]
theorem snoc_of {l : List Ent} {n : Nat} {e : Ent} (h : l[n]? = some e) (hl : l.length = n + 1) : l = l.take n ++ [e] := by
  have := List.take_add_one (l := l) (i := n)
  rw [h, List.take_of_length_le (by omega)] at this
  exact this
theorem last_pos {l : List Ent} {i : Nat} {e : Ent} (h : l[i]? = some e) : lastNo l e.term.name ≠ 0 := by
  have := last_ge h rfl (List.getElem?_eq_some_iff.1 h).1 (Nat.le_refl _)
  rw [List.take_length] at this
  omega
end Go.Proofs.YtllogmokadcfmaaGreat.Trail
