/-
  Some texts of this claim, one behind the other: NeedNames, NeedCheck, NeedSame, ManiMath, ManiCells. What each proves, and its condition, stands at its head.
-/
import Derived.Test.YtdggnakjfcmnmaaZB6
import Derived.Test.YtdggnakjfcmnmaaZB21
import Derived.Laws.Cover1
import Derived.Test.YtdggnakjfcmnmaaZB3
import Derived.Shelf.Abstract
/-
  Contracts on names: how two stand (cmp.Compare, at strings; the closure that compares needs), whether one may follow another; which needs are large. No condition beyond the length of a text.
-/
namespace Go.Proofs.Ytdggnakjfcmnmaa.Need
open Go.RowKit Go.Lib Go.Proofs.Ytdggnakjfcmnmaa.Span
open Go.Proofs.Ytdggnakjfcmnmaa.Label (runes fitL fit_any)
set_option linter.unusedVariables false
def cmpN (a b : ByteArray) : Int := if nlt a b = true then -1 else if nlt b a = true then 1 else 0
theorem tri (a b : ByteArray) : (Op.bytesLess a.toList b.toList = true ∧ nlt b a = false ∧ (a.toList == b.toList) = false) ∨ (Op.bytesLess a.toList b.toList = false ∧ nlt b a = false ∧ (a.toList == b.toList) = true) ∨ (Op.bytesLess a.toList b.toList = false ∧ nlt b a = true ∧ (a.toList == b.toList) = false) := by
  rw [eq_names]
  show (nlt a b = true ∧ _) ∨ (nlt a b = false ∧ _) ∨ (nlt a b = false ∧ _)
  by_cases h1 : nlt a b = true
  · exact .inl ⟨h1, nlt_asymm h1, decide_eq_false (nlt_ne h1)⟩
  · have h1' : nlt a b = false := by simpa using h1
    by_cases h2 : a = b
    · exact .inr (.inl ⟨h1', by rw [h2]; exact nlt_self b, decide_eq_true h2⟩)
    · have h3 : nlt b a = true := by
        cases g : nlt b a with
        | true => rfl
        | false => exact absurd (nlt_tri h1' g) h2
      exact .inr (.inr ⟨h1', h3, decide_eq_false h2⟩)
def bigN (q : Nd) : Bool := decide (40 < q.2.length) || decide (100 < q.1.size)
def large (l : List Nd) : Bool := decide (40 < l.length) || l.any bigN
end Go.Proofs.Ytdggnakjfcmnmaa.Need
/-
  The contract of the program's Check: which needs may be. Condition: the slices read as needs, of at most 1,000,000,001 spans each; names as long as a text may be.
-/
namespace Go.Proofs.Ytdggnakjfcmnmaa.Need
open Go.RowKit Go.Lib Go.Proofs.Ytdggnakjfcmnmaa.Span
open Go.Proofs.Ytdggnakjfcmnmaa.Label (runes fitL)
set_option linter.unusedVariables false
def Names (l : List Nd) : Prop := ∀ q ∈ l, q.1.size ≤ 140737488355328 ∧ q.2.length ≤ 1000000001
end Go.Proofs.Ytdggnakjfcmnmaa.Need
/-
  Contracts of the program's Same (over the library's EqualFunc and a closure) and the document's: whether needs are alike. Condition: the slices read as needs, of at most 1,000,000,001 spans each.
-/
namespace Go.Proofs.Ytdggnakjfcmnmaa.Need
open Go.RowKit Go.Lib Go.Proofs.Ytdggnakjfcmnmaa.Span
set_option linter.unusedVariables false
def Short (l : List Nd) : Prop := ∀ q ∈ l, q.2.length ≤ 1000000001
end Go.Proofs.Ytdggnakjfcmnmaa.Need
/-
  Plain mathematics of manifests: releases, which manifests may be, what is large. No program.
-/
namespace Go.Proofs.Ytdggnakjfcmnmaa.Mani
open Go.RowKit Go.Lib Go.Proofs.Ytdggnakjfcmnmaa.Span Go.Proofs.Ytdggnakjfcmnmaa.Need
open Go.Proofs.Ytdggnakjfcmnmaa.Label (runes fitL)
set_option linter.unusedVariables false
abbrev Rl := Int × List Nd
def okR : Int → List Rl → Bool
  | _, [] => true
  | a, q :: t => (decide (a < q.1) && (decide (q.1 < 1000000000) && okS q.2)) && okR q.1 t
def okM (nm : ByteArray) (l : List Rl) : Bool := okR (-1) l && (fitL (runes nm 0) && decide (l.length ≤ 8))
def RisesR (l : List Rl) : Prop := l.Pairwise fun x y => x.1 < y.1
def largeM (nm : ByteArray) (l : List Rl) : Bool := decide (30 < l.length) || (decide (200 < nm.size) || l.any fun q => large q.2)
def Fine (l : List Nd) : Prop := l.length ≤ 40 ∧ ∀ q ∈ l, q.1.size ≤ 100 ∧ q.2.length ≤ 40
def FineR (l : List Rl) : Prop := l.length ≤ 30 ∧ ∀ q ∈ l, Fine q.2
theorem Fine.names {l : List Nd} (h : Fine l) : Names l := fun q hq => by have := h.2 q hq; omega
def getR : List Rl → Int → Option Rl
  | [], _ => none
  | q :: t, v => if q.1 = v then some q else getR t v
def downS : List Rl → List S → List Int
  | [], _ => []
  | q :: t, s => downS t s ++ if has s q.1 = true then [q.1] else []
def inVers (l : List Rl) (p : Int) : Bool := l.any fun q => decide (q.1 = p)
noncomputable def versS (l : List Rl) : List S := nf (inVers l)
def inNames (l : List Rl) (x : ByteArray) : Prop := ∃ q ∈ l, ∃ y ∈ q.2, y.1 = x
end Go.Proofs.Ytdggnakjfcmnmaa.Mani
/-
  Slices of releases in memory: what came in with a call, and what the call makes. No condition.
-/
namespace Go.Proofs.Ytdggnakjfcmnmaa.Mani
open Go.RowKit Go.Lib Go.Proofs.Ytdggnakjfcmnmaa.Span Go.Proofs.Ytdggnakjfcmnmaa.Need
set_option linter.unusedVariables false
abbrev Vr := Int × Value
def vcs : List Vr → List Value
  | [] => []
  | r :: t => .int .i64 r.1 :: r.2 :: vcs t
theorem vcs_length (l : List Vr) : (vcs l).length = l.length * 2 := by
  induction l with
  | nil => rfl
  | cons s t ih => simp [vcs, ih]; omega
theorem vcs_get (l : List Vr) : ∀ (i : Nat) (r : Vr), l[i]? = some r → (vcs l)[i * 2]? = some (.int .i64 r.1) ∧ (vcs l)[i * 2 + 1]? = some r.2 := by
  induction l with
  | nil => intro i s h; simp at h
  | cons x t ih =>
    intro i s h
    cases i with
    | zero => simp at h; subst h; exact ⟨rfl, rfl⟩
    | succ i =>
      rw [List.getElem?_cons_succ] at h
      have := ih i s h
      rw [show (i + 1) * 2 = i * 2 + 1 + 1 by omega, show i * 2 + 1 + 1 + 1 = (i * 2 + 1) + 1 + 1 by omega]
      exact this
def RFits (w : World) (B : Nat) (rs : List Vr) (l : List Rl) : Prop :=
  rs.length = l.length ∧ ∀ (i : Nat) (r : Vr) (q : Rl), rs[i]? = some r → l[i]? = some q → r.1 = q.1 ∧ ∃ A n c, r.2 = .slice A n c ∧ NdIn w B A n q.2
theorem RFits.below {w w' : World} {B : Nat} {rs : List Vr} {l : List Rl} (h : RFits w B rs l) (hb : Below B w w') : RFits w' B rs l :=
  ⟨h.1, fun i r q hr hq => by
    obtain ⟨e1, A', n', c', e2, hs⟩ := h.2 i r q hr hq
    exact ⟨e1, A', n', c', e2, hs.below hb⟩⟩
theorem RFits.more {w : World} {B B' : Nat} {rs : List Vr} {l : List Rl} (h : RFits w B rs l) (hb : B ≤ B') : RFits w B' rs l :=
  ⟨h.1, fun i r q hr hq => by
    obtain ⟨e1, A', n', c', e2, hs⟩ := h.2 i r q hr hq
    exact ⟨e1, A', n', c', e2, hs.more hb⟩⟩
def RlIn (w : World) (B : Nat) (A : Option Addr) (n : Nat) (l : List Rl) : Prop := ∃ rs, Reads w B 2 A n (vcs rs) ∧ RFits w B rs l
section
variable {w w' : World} {B B' n k : Nat} {A : Option Addr} {l : List Rl}
theorem RlIn.len (h : RlIn w B A n l) : l.length = n := by
  obtain ⟨rs, h1, h2⟩ := h
  have := h1.1
  rw [vcs_length] at this
  have := h2.1
  omega
theorem RlIn.at_ (h : RlIn w B A n l) (hk : k < n) :
    ∃ ad q A' n' c', A = some ad ∧ ad.block < B ∧ l[k]? = some q ∧ NdIn w B A' n' q.2 ∧ w.cell? (ad.add (k * 2)) = some (.int .i64 q.1) ∧ w.cell? ⟨(ad.add (k * 2)).block, (ad.add (k * 2)).off + 1, none⟩ = some (.slice A' n' c') := by
  have hl := h.len
  obtain ⟨rs, h1, h2⟩ := h
  obtain ⟨ad, hA, hb, hc⟩ := h1.2 (by omega)
  have hr : k < rs.length := by rw [h2.1]; omega
  obtain ⟨e1, A', n', c', e2, hs⟩ := h2.2 k rs[k] (l[k]'(by omega)) (by simp) (by simp)
  obtain ⟨g1, g2⟩ := vcs_get rs k rs[k] (by simp)
  refine ⟨ad, l[k]'(by omega), A', n', c', hA, hb, by simp, hs, ?_, ?_⟩
  · rw [← e1]; exact hc _ _ g1
  · rw [← add_field, ← e2]; exact hc _ _ g2
theorem RlIn.below (h : RlIn w B A n l) (hb : Below B w w') : RlIn w' B A n l := by
  obtain ⟨rs, h1, h2⟩ := h
  exact ⟨rs, h1.below hb, h2.below hb⟩
theorem RlIn.more (h : RlIn w B A n l) (hb : B ≤ B') : RlIn w B' A n l := by
  obtain ⟨rs, h1, h2⟩ := h
  exact ⟨rs, h1.more hb, h2.more hb⟩
theorem RlIn.nil (w : World) (B : Nat) (A : Option Addr) : RlIn w B A 0 [] := ⟨[], ⟨rfl, fun h => absurd h (by omega)⟩, rfl, fun i r q hr _ => by simp at hr⟩
end
def RlOn (w : World) (A : Option Addr) (n : Nat) (l : List Rl) : Prop := RlIn w w.heap.size A n l
theorem RlOn.on {w w' : World} {A : Option Addr} {n : Nat} {l : List Rl} (h : RlOn w A n l) (hb : Below w.heap.size w w') : RlOn w' A n l := (RlIn.below h hb).more hb.size
/-! What a call makes. -/
def FarT (w : World) (T : TypeId) (row : Option Nat) : Prop := ∀ (b : Nat) (cur : Array Value) (m : Nat × Nat), w.heap[b]? = some (.cells cur T m) → some b ≠ row
section
variable {w w' w1 : World} {B n m size : Nat} {A : Option Addr} {v v1 : Value} {l : List Nd}
end
section
variable {w w' w1 : World} {B n m : Nat} {v v1 : Value} {rs rs2 : List Vr} {l l2 : List Rl}
end
end Go.Proofs.Ytdggnakjfcmnmaa.Mani
