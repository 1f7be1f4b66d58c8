/-
  Some texts of this claim, one behind the other: PickMath, ProofMath. What each proves, and its condition, stands at its head.
-/
import Derived.Test.YtdggnakjfcmnmaaZC6
import Derived.Test.YtdggnakjfcmnmaaZC7
/-
  Plain mathematics of picks: which may be; what is got, put and dropped. No program.
-/
namespace Go.Proofs.Ytdggnakjfcmnmaa.Pick
open Go.RowKit Go.Lib Go.Proofs.Ytdggnakjfcmnmaa.Span Go.Proofs.Ytdggnakjfcmnmaa.Need
open Go.Proofs.Ytdggnakjfcmnmaa.Label (runes fitL runes_end)
set_option linter.unusedVariables false
abbrev Pk := ByteArray × Int
def RisesP (l : List Pk) : Prop := l.Pairwise fun x y => nlt x.1 y.1 = true
def getP : List Pk → ByteArray → Option Int
  | [], _ => none
  | q :: t, n => if q.1 = n then some q.2 else getP t n
def insP (n : Pk) : Bool → List Pk → List Pk
  | i, [] => if i = true then [] else [n]
  | i, x :: t => if i = false ∧ nlt n.1 x.1 = true then n :: x :: insP n true t else x :: insP n i t
def verOk (v : Int) : Bool := decide (0 ≤ v ∧ v < 1000000000)
def okQ : ByteArray → List Pk → Bool
  | _, [] => true
  | a, q :: t => (nlt a q.1 && (fitL (runes q.1 0) && verOk q.2)) && okQ q.1 t
def okP (l : List Pk) : Bool := okQ ByteArray.empty l
def dropP (l : List Pk) (n : ByteArray) : List Pk := l.filter fun q => decide (q.1 ≠ n)
def putP (l : List Pk) (p : Pk) : List Pk := insP p false (dropP l p.1)
end Go.Proofs.Ytdggnakjfcmnmaa.Pick
/-
  Plain mathematics of proofs' steps: which may be; which steps the last one leans on; what is left of a proof that is trimmed: it may be, is trimmed, ends in the step that was last, and has no step that was not there. No program.
-/
namespace Go.Proofs.Ytdggnakjfcmnmaa.Proof
open Go.RowKit Go.Lib Go.Proofs.Ytdggnakjfcmnmaa.Span Go.Proofs.Ytdggnakjfcmnmaa.Need Go.Proofs.Ytdggnakjfcmnmaa.Pick
open Go.Proofs.Ytdggnakjfcmnmaa.Label (runes fitL)
set_option linter.unusedVariables false
structure Sp where
  kind : Int
  name : ByteArray
  ver : Int
  dest : ByteArray
  a : Int
  b : Int
def mayS (s : Sp) (i : Nat) : Bool := ((decide (1 ≤ s.kind ∧ s.kind ≤ 4) && fitL (runes s.name 0)) && (if s.kind = 3 then fitL (runes s.dest 0) && verOk s.ver else decide (s.dest = ByteArray.empty) && decide (s.ver = 0))) && (if s.kind = 4 then decide (0 ≤ s.a ∧ s.a < i ∧ 0 ≤ s.b ∧ s.b < i) else decide (s.a = 0 ∧ s.b = 0))
def OkSteps (l : List Sp) : Prop := ∀ (i : Nat) (s : Sp), l[i]? = some s → mayS s i = true
theorem may_joined {s : Sp} {i : Nat} (h : mayS s i = true) (hk : s.kind = 4) : 0 ≤ s.a ∧ s.a < i ∧ 0 ≤ s.b ∧ s.b < i := by
  unfold mayS at h
  rw [if_pos hk] at h
  simp only [Bool.and_eq_true, decide_eq_true_eq] at h
  exact h.2
def setU (u : Nat → Bool) (k : Nat) : Nat → Bool := fun j => u j || decide (j = k)
def stepU (l : List Sp) (i : Nat) (u : Nat → Bool) : Nat → Bool := match l[i]? with
  | some s => if u i = true ∧ s.kind = 4 then setU (setU u s.a.toNat) s.b.toNat else u
  | none => u
def markT (l : List Sp) : Nat → (Nat → Bool) → (Nat → Bool)
  | 0, u => u
  | i + 1, u => markT l i (stepU l i u)
def usedT (l : List Sp) : Nat → Bool := markT l l.length fun k => decide (k = l.length - 1)
def atT (l : List Sp) (i : Nat) : Nat := ((List.range i).filter (usedT l)).length
def reS (l : List Sp) (s : Sp) : Sp := if s.kind = 4 then { s with a := (atT l s.a.toNat : Int), b := (atT l s.b.toNat : Int) } else s
def leftT (l : List Sp) (i : Nat) : Option Sp := match l[i]? with
  | some s => if usedT l i = true then some (reS l s) else none
  | none => none
def trimT (l : List Sp) : List Sp := (List.range l.length).filterMap (leftT l)
inductive U (l : List Sp) : Nat → Prop
  | last : U l (l.length - 1)
  | left {i : Nat} {s : Sp} (h : U l i) (hs : l[i]? = some s) (hk : s.kind = 4) : U l s.a.toNat
  | right {i : Nat} {s : Sp} (h : U l i) (hs : l[i]? = some s) (hk : s.kind = 4) : U l s.b.toNat
section
variable {l : List Sp}
theorem step_some {i : Nat} {s : Sp} (hs : l[i]? = some s) (u : Nat → Bool) : stepU l i u = if u i = true ∧ s.kind = 4 then setU (setU u s.a.toNat) s.b.toNat else u := by unfold stepU; rw [hs]
theorem at_succ (i : Nat) : atT l (i + 1) = atT l i + if usedT l i = true then 1 else 0 := by
  unfold atT
  rw [List.range_succ, List.filter_append, List.length_append]
  congr 1
  by_cases h : usedT l i = true <;> simp [h]
theorem left_len : ∀ (n : Nat), n ≤ l.length → ((List.range n).filterMap (leftT l)).length = atT l n
  | 0, _ => rfl
  | n + 1, h => by
    rw [List.range_succ, List.filterMap_append, List.length_append, left_len n (by omega), at_succ]
    congr 1
    obtain ⟨s, hs⟩ : ∃ s, l[n]? = some s := ⟨l[n]'(by omega), by simp⟩
    have e : leftT l n = if usedT l n = true then some (reS l s) else none := by unfold leftT; rw [hs]
    by_cases hu : usedT l n = true
    · simp [e, hu]
    · simp [e, hu]
end
end Go.Proofs.Ytdggnakjfcmnmaa.Proof
