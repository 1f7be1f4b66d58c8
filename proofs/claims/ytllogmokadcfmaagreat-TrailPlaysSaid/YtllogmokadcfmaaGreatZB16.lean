/-
  Some texts of this claim, one behind the other: NeedNames, ManiMath, ManiCells. What each proves, and its condition, stands at its head.
-/
import Derived.Test.YtllogmokadcfmaaGreatZB6
import Derived.Test.YtllogmokadcfmaaGreatZB15
import Derived.Laws.Cover1
import Derived.Test.YtllogmokadcfmaaGreatZB3
import Derived.Shelf.Abstract
/-
  Contracts on names: how two stand (cmp.Compare, at strings; the closure that compares needs), whether one may follow another; which needs are large. No condition beyond the length of a text.
-/
namespace Go.Proofs.YtllogmokadcfmaaGreat.Need
open Go.RowKit Go.Lib Go.Proofs.YtllogmokadcfmaaGreat.Span
open Go.Proofs.YtllogmokadcfmaaGreat.Label (runes fitL fit_any)
set_option linter.unusedVariables false
theorem tri (a b : ByteArray) : (Op.bytesLess a.toList b.toList = true ∧ nlt b a = false ∧ (a.toList == b.toList) = false) ∨ (Op.bytesLess a.toList b.toList = false ∧ nlt b a = false ∧ (a.toList == b.toList) = true) ∨ (Op.bytesLess a.toList b.toList = false ∧ nlt b a = true ∧ (a.toList == b.toList) = false) := by
  rw [eq_names]
  show (nlt a b = true ∧ _) ∨ (nlt a b = false ∧ _) ∨ (nlt a b = false ∧ _)
  by_cases h1 : nlt a b = true
  · exact .inl ⟨h1, nlt_asymm h1, decide_eq_false (nlt_ne h1)⟩
  · have h1' : nlt a b = false := by simpa using h1
    by_cases h2 : a = b
    · exact .inr (.inl ⟨h1', by rw [h2]; exact nlt_self b, decide_eq_true h2⟩)
    · have h3 : nlt b a = true := by
        cases g : nlt b a with
        | true => rfl
        | false => exact absurd (nlt_tri h1' g) h2
      exact .inr (.inr ⟨h1', h3, decide_eq_false h2⟩)
end Go.Proofs.YtllogmokadcfmaaGreat.Need
/-
  Plain mathematics of manifests: releases, which manifests may be, what is large. No program.
-/
namespace Go.Proofs.YtllogmokadcfmaaGreat.Mani
open Go.RowKit Go.Lib Go.Proofs.YtllogmokadcfmaaGreat.Span Go.Proofs.YtllogmokadcfmaaGreat.Need
open Go.Proofs.YtllogmokadcfmaaGreat.Label (runes fitL)
set_option linter.unusedVariables false
abbrev Rl := Int × List Nd
def Fine (l : List Nd) : Prop := l.length ≤ 40 ∧ ∀ q ∈ l, q.1.size ≤ 100 ∧ q.2.length ≤ 40
def getR : List Rl → Int → Option Rl
  | [], _ => none
  | q :: t, v => if q.1 = v then some q else getR t v
end Go.Proofs.YtllogmokadcfmaaGreat.Mani
/-
  Slices of releases in memory: what came in with a call, and what the call makes. No condition.
-/
namespace Go.Proofs.YtllogmokadcfmaaGreat.Mani
open Go.RowKit Go.Lib Go.Proofs.YtllogmokadcfmaaGreat.Span Go.Proofs.YtllogmokadcfmaaGreat.Need
set_option linter.unusedVariables false
abbrev Vr := Int × Value
def vcs : List Vr → List Value
  | [] => []
  | r :: t => .int .i64 r.1 :: r.2 :: vcs t
theorem vcs_length (l : List Vr) : (vcs l).length = l.length * 2 := by
  induction l with
  | nil => rfl
  | cons s t ih => simp [vcs, ih]; omega
theorem vcs_get (l : List Vr) : ∀ (i : Nat) (r : Vr), l[i]? = some r → (vcs l)[i * 2]? = some (.int .i64 r.1) ∧ (vcs l)[i * 2 + 1]? = some r.2 := by
  induction l with
  | nil => intro i s h; simp at h
  | cons x t ih =>
    intro i s h
    cases i with
    | zero => simp at h; subst h; exact ⟨rfl, rfl⟩
    | succ i =>
      rw [List.getElem?_cons_succ] at h
      have := ih i s h
      rw [show (i + 1) * 2 = i * 2 + 1 + 1 by omega, show i * 2 + 1 + 1 + 1 = (i * 2 + 1) + 1 + 1 by omega]
      exact this
def RFits (w : World) (B : Nat) (rs : List Vr) (l : List Rl) : Prop :=
  rs.length = l.length ∧ ∀ (i : Nat) (r : Vr) (q : Rl), rs[i]? = some r → l[i]? = some q → r.1 = q.1 ∧ ∃ A n c, r.2 = .slice A n c ∧ NdIn w B A n q.2
def RlIn (w : World) (B : Nat) (A : Option Addr) (n : Nat) (l : List Rl) : Prop := ∃ rs, Reads w B 2 A n (vcs rs) ∧ RFits w B rs l
section
variable {w w' : World} {B B' n k : Nat} {A : Option Addr} {l : List Rl}
theorem RlIn.len (h : RlIn w B A n l) : l.length = n := by
  obtain ⟨rs, h1, h2⟩ := h
  have := h1.1
  rw [vcs_length] at this
  have := h2.1
  omega
theorem RlIn.at_ (h : RlIn w B A n l) (hk : k < n) :
    ∃ ad q A' n' c', A = some ad ∧ ad.block < B ∧ l[k]? = some q ∧ NdIn w B A' n' q.2 ∧ w.cell? (ad.add (k * 2)) = some (.int .i64 q.1) ∧ w.cell? ⟨(ad.add (k * 2)).block, (ad.add (k * 2)).off + 1, none⟩ = some (.slice A' n' c') := by
  have hl := h.len
  obtain ⟨rs, h1, h2⟩ := h
  obtain ⟨ad, hA, hb, hc⟩ := h1.2 (by omega)
  have hr : k < rs.length := by rw [h2.1]; omega
  obtain ⟨e1, A', n', c', e2, hs⟩ := h2.2 k rs[k] (l[k]'(by omega)) (by simp) (by simp)
  obtain ⟨g1, g2⟩ := vcs_get rs k rs[k] (by simp)
  refine ⟨ad, l[k]'(by omega), A', n', c', hA, hb, by simp, hs, ?_, ?_⟩
  · rw [← e1]; exact hc _ _ g1
  · rw [← add_field, ← e2]; exact hc _ _ g2
theorem RlIn.nil (w : World) (B : Nat) (A : Option Addr) : RlIn w B A 0 [] := ⟨[], ⟨rfl, fun h => absurd h (by omega)⟩, rfl, fun i r q hr _ => by simp at hr⟩
end
/-! What a call makes. -/
def FarT (w : World) (T : TypeId) (row : Option Nat) : Prop := ∀ (b : Nat) (cur : Array Value) (m : Nat × Nat), w.heap[b]? = some (.cells cur T m) → some b ≠ row
theorem farT_own {w : World} {B size n : Nat} {T T' : TypeId} {v : Value} {xs : List Value} (hown : w.ownsRow B T' size v n xs) (hne : T ≠ T') : FarT w T v.ownBlock := by
  intro b cur m h e
  rcases hown.2 with ⟨rfl, _⟩ | ⟨g, cap, cur', rfl, hB, hgg, _⟩
  · cases e
  · simp only [Value.ownBlock, Option.some.injEq] at e
    rw [e, hgg] at h
    injection h with h
    injection h with _ h _
    exact hne h.symm
theorem farT_blk {w : World} {g : Nat} {T T' : TypeId} {cs : Array Value} (hb : Blk w g T' cs) (hne : T ≠ T') : FarT w T (some g) := by
  intro b cur m h e
  injection e with e
  subst e
  unfold Blk at hb
  rw [hb] at h
  injection h with h
  injection h with _ h _
  exact hne h.symm
theorem own_far {w w' : World} {row : Option Nat} {B size n : Nat} {T : TypeId} {v : Value} {xs : List Value} (h : w.ownsRow B T size v n xs) (hf : FarT w T row) (hg : w.grownBy w' row) : w'.ownsRow B T size v n xs := by
  refine ⟨h.1, ?_⟩
  rcases h.2 with hn | ⟨g, cap, cur, hv, hB, hh, r⟩
  · exact .inl hn
  · exact .inr ⟨g, cap, cur, hv, hB, (hg.block g (Array.getElem?_eq_some_iff.1 hh).1 (hf g cur _ hh)).trans hh, r⟩
theorem insFar {w w' : World} {row : Option Nat} {n : Nat} {A : Option Addr} {l : List S} (h : InS w 0 A n l) (hf : FarT w 56 row) (hg : w.grownBy w' row) : InS w' 0 A n l := by
  refine ⟨⟨h.1.1, fun hn => ?_⟩, fun ad hA hn => ?_⟩
  · obtain ⟨ad, hA, hlt, hc⟩ := h.1.2 hn
    rcases h.2 ad hA hn with h1 | ⟨cur, k, h1⟩
    · omega
    refine ⟨ad, hA, Nat.lt_of_lt_of_le hlt hg.size, fun i s hs => ?_⟩
    obtain ⟨c1, c2⟩ := hc i s hs
    have hb := hg.block _ hlt (hf _ _ _ h1)
    constructor
    · exact (World.cell?_of_block (by rw [block_of_add]; exact hb)).trans c1
    · exact (World.cell?_of_block (by simp only [block_of_add]; exact hb)).trans c2
  · obtain ⟨ad', hA', hlt, hc⟩ := h.1.2 hn
    rw [hA] at hA'
    injection hA' with hA'
    subst hA'
    rcases h.2 ad hA hn with h1 | ⟨cur, k, h1⟩
    · omega
    exact .inr ⟨cur, k, (hg.block _ hlt (hf _ _ _ h1)).trans h1⟩
section
variable {w w' w1 : World} {B n m size : Nat} {A : Option Addr} {v v1 : Value} {l : List Nd}
end
section
variable {w w' w1 : World} {B n m : Nat} {v v1 : Value} {rs rs2 : List Vr} {l l2 : List Rl}
end
end Go.Proofs.YtllogmokadcfmaaGreat.Mani
