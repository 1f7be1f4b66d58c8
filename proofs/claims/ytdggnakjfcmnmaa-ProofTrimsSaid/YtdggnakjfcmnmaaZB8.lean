/-
  Some texts of this claim, one behind the other: PickMath, ProofMath. What each proves, and its condition, stands at its head.
-/
import Derived.Test.YtdggnakjfcmnmaaZB6
import Derived.Test.YtdggnakjfcmnmaaZB7
/-
  Plain mathematics of picks: which may be; what is got, put and dropped. No program.
-/
namespace Go.Proofs.Ytdggnakjfcmnmaa.Pick
open Go.RowKit Go.Lib Go.Proofs.Ytdggnakjfcmnmaa.Span Go.Proofs.Ytdggnakjfcmnmaa.Need
open Go.Proofs.Ytdggnakjfcmnmaa.Label (runes fitL runes_end)
set_option linter.unusedVariables false
abbrev Pk := ByteArray × Int
def RisesP (l : List Pk) : Prop := l.Pairwise fun x y => nlt x.1 y.1 = true
def getP : List Pk → ByteArray → Option Int
  | [], _ => none
  | q :: t, n => if q.1 = n then some q.2 else getP t n
def insP (n : Pk) : Bool → List Pk → List Pk
  | i, [] => if i = true then [] else [n]
  | i, x :: t => if i = false ∧ nlt n.1 x.1 = true then n :: x :: insP n true t else x :: insP n i t
def verOk (v : Int) : Bool := decide (0 ≤ v ∧ v < 1000000000)
def okQ : ByteArray → List Pk → Bool
  | _, [] => true
  | a, q :: t => (nlt a q.1 && (fitL (runes q.1 0) && verOk q.2)) && okQ q.1 t
def okP (l : List Pk) : Bool := okQ ByteArray.empty l
def dropP (l : List Pk) (n : ByteArray) : List Pk := l.filter fun q => decide (q.1 ≠ n)
def putP (l : List Pk) (p : Pk) : List Pk := insP p false (dropP l p.1)
end Go.Proofs.Ytdggnakjfcmnmaa.Pick
/-
  Plain mathematics of proofs' steps: which may be; which steps the last one leans on; what is left of a proof that is trimmed: it may be, is trimmed, ends in the step that was last, and has no step that was not there. No program.
-/
namespace Go.Proofs.Ytdggnakjfcmnmaa.Proof
open Go.RowKit Go.Lib Go.Proofs.Ytdggnakjfcmnmaa.Span Go.Proofs.Ytdggnakjfcmnmaa.Need Go.Proofs.Ytdggnakjfcmnmaa.Pick
open Go.Proofs.Ytdggnakjfcmnmaa.Label (runes fitL)
set_option linter.unusedVariables false
structure Sp where
  kind : Int
  name : ByteArray
  ver : Int
  dest : ByteArray
  a : Int
  b : Int
def mayS (s : Sp) (i : Nat) : Bool := ((decide (1 ≤ s.kind ∧ s.kind ≤ 4) && fitL (runes s.name 0)) && (if s.kind = 3 then fitL (runes s.dest 0) && verOk s.ver else decide (s.dest = ByteArray.empty) && decide (s.ver = 0))) && (if s.kind = 4 then decide (0 ≤ s.a ∧ s.a < i ∧ 0 ≤ s.b ∧ s.b < i) else decide (s.a = 0 ∧ s.b = 0))
def OkSteps (l : List Sp) : Prop := ∀ (i : Nat) (s : Sp), l[i]? = some s → mayS s i = true
theorem may_joined {s : Sp} {i : Nat} (h : mayS s i = true) (hk : s.kind = 4) : 0 ≤ s.a ∧ s.a < i ∧ 0 ≤ s.b ∧ s.b < i := by
  unfold mayS at h
  rw [if_pos hk] at h
  simp only [Bool.and_eq_true, decide_eq_true_eq] at h
  exact h.2
def setU (u : Nat → Bool) (k : Nat) : Nat → Bool := fun j => u j || decide (j = k)
def stepU (l : List Sp) (i : Nat) (u : Nat → Bool) : Nat → Bool := match l[i]? with
  | some s => if u i = true ∧ s.kind = 4 then setU (setU u s.a.toNat) s.b.toNat else u
  | none => u
def markT (l : List Sp) : Nat → (Nat → Bool) → (Nat → Bool)
  | 0, u => u
  | i + 1, u => markT l i (stepU l i u)
def usedT (l : List Sp) : Nat → Bool := markT l l.length fun k => decide (k = l.length - 1)
def atT (l : List Sp) (i : Nat) : Nat := ((List.range i).filter (usedT l)).length
def reS (l : List Sp) (s : Sp) : Sp := if s.kind = 4 then { s with a := (atT l s.a.toNat : Int), b := (atT l s.b.toNat : Int) } else s
def leftT (l : List Sp) (i : Nat) : Option Sp := match l[i]? with
  | some s => if usedT l i = true then some (reS l s) else none
  | none => none
def trimT (l : List Sp) : List Sp := (List.range l.length).filterMap (leftT l)
inductive U (l : List Sp) : Nat → Prop
  | last : U l (l.length - 1)
  | left {i : Nat} {s : Sp} (h : U l i) (hs : l[i]? = some s) (hk : s.kind = 4) : U l s.a.toNat
  | right {i : Nat} {s : Sp} (h : U l i) (hs : l[i]? = some s) (hk : s.kind = 4) : U l s.b.toNat
section
variable {l : List Sp}
theorem step_some {i : Nat} {s : Sp} (hs : l[i]? = some s) (u : Nat → Bool) : stepU l i u = if u i = true ∧ s.kind = 4 then setU (setU u s.a.toNat) s.b.toNat else u := by unfold stepU; rw [hs]
theorem step_none {i : Nat} (hs : l[i]? = none) (u : Nat → Bool) : stepU l i u = u := by unfold stepU; rw [hs]
theorem step_mono (i : Nat) (u : Nat → Bool) {j : Nat} (h : u j = true) : stepU l i u j = true := by
  cases hs : l[i]? with
  | none => rw [step_none hs]; exact h
  | some s =>
    rw [step_some hs]
    by_cases hk : u i = true ∧ s.kind = 4
    · rw [if_pos hk]; simp [setU, h]
    · rw [if_neg hk]; exact h
theorem mark_mono : ∀ (i : Nat) (u : Nat → Bool) {j : Nat}, u j = true → markT l i u j = true
  | 0, u, j, h => h
  | i + 1, u, j, h => mark_mono i _ (step_mono i u h)
theorem step_high (hl : OkSteps l) {i : Nat} (u : Nat → Bool) {j : Nat} (h : i ≤ j) : stepU l i u j = u j := by
  cases hs : l[i]? with
  | none => rw [step_none hs]
  | some s =>
    rw [step_some hs]
    by_cases hk : u i = true ∧ s.kind = 4
    · rw [if_pos hk]
      have hm := may_joined (hl i s hs) hk.2
      have e1 : decide (j = s.a.toNat) = false := decide_eq_false (by omega)
      have e2 : decide (j = s.b.toNat) = false := decide_eq_false (by omega)
      simp [setU, e1, e2]
    · rw [if_neg hk]
theorem mark_closed (hl : OkSteps l) : ∀ (i : Nat) (u : Nat → Bool), (∀ k s, i ≤ k → u k = true → l[k]? = some s → s.kind = 4 → u s.a.toNat = true ∧ u s.b.toNat = true) → ∀ k s, markT l i u k = true → l[k]? = some s → s.kind = 4 → markT l i u s.a.toNat = true ∧ markT l i u s.b.toNat = true
  | 0, u, h, k, s, hu, hs, hk => h k s (Nat.zero_le _) hu hs hk
  | i + 1, u, h, k, s, hu, hs, hk => by
    refine mark_closed hl i _ (fun k2 s2 hik hu2 hs2 hk2 => ?_) k s hu hs hk
    rw [step_high hl u hik] at hu2
    by_cases e : k2 = i
    · rw [e] at hu2 hs2
      rw [step_some hs2, if_pos ⟨hu2, hk2⟩]
      simp [setU]
    · have := h k2 s2 (by omega) hu2 hs2 hk2
      exact ⟨step_mono i u this.1, step_mono i u this.2⟩
theorem mark_sound : ∀ (i : Nat) (u : Nat → Bool), (∀ k, u k = true → U l k) → ∀ k, markT l i u k = true → U l k
  | 0, u, h, k, hu => h k hu
  | i + 1, u, h, k, hu => by
    refine mark_sound i _ (fun k hk => ?_) k hu
    cases hs : l[i]? with
    | none => rw [step_none hs] at hk; exact h k hk
    | some s =>
      rw [step_some hs] at hk
      by_cases hj : u i = true ∧ s.kind = 4
      · rw [if_pos hj] at hk
        simp only [setU, Bool.or_eq_true, decide_eq_true_eq] at hk
        rcases hk with (hk | hk) | hk
        · exact h k hk
        · rw [hk]; exact .left (h i hj.1) hs hj.2
        · rw [hk]; exact .right (h i hj.1) hs hj.2
      · rw [if_neg hj] at hk; exact h k hk
theorem used_iff (hl : OkSteps l) (i : Nat) : usedT l i = true ↔ U l i := by
  constructor
  · refine mark_sound l.length _ (fun k hk => ?_) i
    rw [of_decide_eq_true hk]
    exact .last
  · intro h
    have hc := mark_closed hl l.length (fun k => decide (k = l.length - 1)) fun k s hk hu hs hk4 => by
      obtain ⟨hlt, _⟩ := List.getElem?_eq_some_iff.1 hs
      omega
    induction h with
    | last => exact mark_mono _ _ (decide_eq_true rfl)
    | left h hs hk ih => exact (hc _ _ ih hs hk).1
    | right h hs hk ih => exact (hc _ _ ih hs hk).2
theorem at_succ (i : Nat) : atT l (i + 1) = atT l i + if usedT l i = true then 1 else 0 := by
  unfold atT
  rw [List.range_succ, List.filter_append, List.length_append]
  congr 1
  by_cases h : usedT l i = true <;> simp [h]
theorem at_mono {i j : Nat} (h : i ≤ j) : atT l i ≤ atT l j := by
  induction j with
  | zero => rw [show i = 0 by omega]; exact Nat.le_refl _
  | succ j ih =>
    rcases Nat.lt_or_ge i (j + 1) with g | g
    · have := ih (by omega); rw [at_succ]; omega
    · rw [show i = j + 1 by omega]; exact Nat.le_refl _
theorem at_lt {i j : Nat} (hu : usedT l i = true) (h : i < j) : atT l i < atT l j := by
  have h1 := at_succ (l := l) i
  rw [if_pos hu] at h1
  have := at_mono (l := l) (show i + 1 ≤ j by omega)
  omega
theorem left_len : ∀ (n : Nat), n ≤ l.length → ((List.range n).filterMap (leftT l)).length = atT l n
  | 0, _ => rfl
  | n + 1, h => by
    rw [List.range_succ, List.filterMap_append, List.length_append, left_len n (by omega), at_succ]
    congr 1
    obtain ⟨s, hs⟩ : ∃ s, l[n]? = some s := ⟨l[n]'(by omega), by simp⟩
    have e : leftT l n = if usedT l n = true then some (reS l s) else none := by unfold leftT; rw [hs]
    by_cases hu : usedT l n = true
    · simp [e, hu]
    · simp [e, hu]
theorem trim_len : (trimT l).length = atT l l.length := left_len _ (Nat.le_refl _)
theorem trim_at {i : Nat} {s : Sp} (hs : l[i]? = some s) (hu : usedT l i = true) : (trimT l)[atT l i]? = some (reS l s) := by
  obtain ⟨hlt, _⟩ := List.getElem?_eq_some_iff.1 hs
  have e : leftT l i = some (reS l s) := by unfold leftT; rw [hs]; simp [hu]
  have key : ∀ n, i < n → n ≤ l.length → ((List.range n).filterMap (leftT l))[atT l i]? = some (reS l s) := by
    intro n
    induction n with
    | zero => intro h; omega
    | succ n ih =>
      intro h hn
      rw [List.range_succ, List.filterMap_append]
      by_cases g : i < n
      · rw [List.getElem?_append_left (by rw [left_len n (by omega)]; exact at_lt hu g)]
        exact ih g (by omega)
      · obtain rfl : i = n := by omega
        rw [List.getElem?_append_right (by rw [left_len i (by omega)]; exact Nat.le_refl _), left_len i (by omega), Nat.sub_self]
        simp [e]
  exact key _ hlt (Nat.le_refl _)
theorem at_onto : ∀ (n m : Nat), m < atT l n → ∃ i, i < n ∧ usedT l i = true ∧ atT l i = m
  | 0, m, h => by simp [atT] at h
  | n + 1, m, h => by
    rw [at_succ] at h
    by_cases g : m < atT l n
    · obtain ⟨i, h1, h2, h3⟩ := at_onto n m g
      exact ⟨i, by omega, h2, h3⟩
    · by_cases hu : usedT l n = true
      · rw [if_pos hu] at h; exact ⟨n, by omega, hu, by omega⟩
      · rw [if_neg hu] at h; omega
theorem trim_from (m : Nat) {t : Sp} (h : (trimT l)[m]? = some t) : ∃ i s, l[i]? = some s ∧ usedT l i = true ∧ atT l i = m ∧ t = reS l s := by
  obtain ⟨hlt, _⟩ := List.getElem?_eq_some_iff.1 h
  rw [trim_len] at hlt
  obtain ⟨i, h1, h2, h3⟩ := at_onto _ m hlt
  obtain ⟨s, hs⟩ : ∃ s, l[i]? = some s := ⟨l[i]'h1, by simp⟩
  have := trim_at hs h2
  rw [h3, h] at this
  injection this with this
  exact ⟨i, s, hs, h2, h3, this⟩
theorem re_kind (s : Sp) : (reS l s).kind = s.kind ∧ (reS l s).name = s.name ∧ (reS l s).ver = s.ver ∧ (reS l s).dest = s.dest := by
  unfold reS
  split <;> simp
theorem trim_le : (trimT l).length ≤ l.length := by
  rw [trim_len]
  have : ((List.range l.length).filter (usedT l)).length ≤ (List.range l.length).length := List.length_filter_le _ _
  rw [List.length_range] at this
  exact this
theorem trim_ok (hl : OkSteps l) : OkSteps (trimT l) := by
  intro m t ht
  obtain ⟨i, s, hs, hu, hm, rfl⟩ := trim_from m ht
  have hmay := hl i s hs
  by_cases hk : s.kind = 4
  · have hj := may_joined hmay hk
    have hU := (used_iff hl i).1 hu
    have ha := at_lt ((used_iff hl _).2 (.left hU hs hk)) (show s.a.toNat < i by omega)
    have hb := at_lt ((used_iff hl _).2 (.right hU hs hk)) (show s.b.toNat < i by omega)
    unfold mayS reS at *
    simp only [hk, if_true, Bool.and_eq_true, decide_eq_true_eq] at hmay ⊢
    refine ⟨hmay.1, ?_⟩
    omega
  · have e : reS l s = s := by unfold reS; rw [if_neg hk]
    rw [e]
    unfold mayS at *
    simp only [hk, if_false] at hmay ⊢
    exact hmay
theorem trim_last (hl : OkSteps l) (h0 : 1 ≤ l.length) : (trimT l).length - 1 = atT l (l.length - 1) ∧ 1 ≤ (trimT l).length := by
  have hu := (used_iff hl _).2 (U.last (l := l))
  have := at_succ (l := l) (l.length - 1)
  rw [if_pos hu, show l.length - 1 + 1 = l.length by omega] at this
  rw [trim_len]
  omega
theorem trim_used (hl : OkSteps l) (h0 : 1 ≤ l.length) {m : Nat} (hm : m < (trimT l).length) : usedT (trimT l) m = true := by
  have key : ∀ i, U l i → U (trimT l) (atT l i) := by
    intro i h
    induction h with
    | last => rw [← (trim_last hl h0).1]; exact .last
    | @left i s h hs hk ih =>
      have e := U.left ih (trim_at hs ((used_iff hl i).2 h)) (by rw [re_kind s |>.1]; exact hk)
      have e2 : (reS l s).a.toNat = atT l s.a.toNat := by unfold reS; rw [if_pos hk]; simp
      rw [e2] at e
      exact e
    | @right i s h hs hk ih =>
      have e := U.right ih (trim_at hs ((used_iff hl i).2 h)) (by rw [re_kind s |>.1]; exact hk)
      have e2 : (reS l s).b.toNat = atT l s.b.toNat := by unfold reS; rw [if_pos hk]; simp
      rw [e2] at e
      exact e
  rw [trim_len] at hm
  obtain ⟨i, h1, h2, h3⟩ := at_onto _ m hm
  rw [← h3]
  exact (used_iff (trim_ok hl) _).2 (key i ((used_iff hl i).1 h2))
theorem at_all {t : List Sp} (h : ∀ m, m < t.length → usedT t m = true) : ∀ (i : Nat), i ≤ t.length → atT t i = i
  | 0, _ => rfl
  | i + 1, hi => by rw [at_succ, if_pos (h i (by omega)), at_all h i (by omega)]
theorem trim_self {t : List Sp} (ht : OkSteps t) (h : ∀ m, m < t.length → usedT t m = true) : trimT t = t := by
  refine List.ext_getElem? fun m => ?_
  by_cases hm : m < t.length
  · obtain ⟨s, hs⟩ : ∃ s, t[m]? = some s := ⟨t[m]'hm, by simp⟩
    have := trim_at hs (h m hm)
    rw [at_all h m (by omega)] at this
    rw [this, hs]
    congr 1
    unfold reS
    split
    · rename_i hk
      have hj := may_joined (ht m s hs) hk
      rw [at_all h _ (by omega), at_all h _ (by omega), Int.toNat_of_nonneg hj.1, Int.toNat_of_nonneg hj.2.2.1]
    · rfl
  · rw [List.getElem?_eq_none (by rw [trim_len, at_all h _ (Nat.le_refl _)]; omega), List.getElem?_eq_none (by omega)]
theorem trim_twice (hl : OkSteps l) (h0 : 1 ≤ l.length) : trimT (trimT l) = trimT l := trim_self (trim_ok hl) fun m hm => trim_used hl h0 hm
end
end Go.Proofs.Ytdggnakjfcmnmaa.Proof
