/-
  Slices of spans: what came in with a call, and new ones of the call's own. No condition.
-/
import Derived.Test.YtgmkagddfbfolaaDoorSpanMath
import Derived.Test.YtgmkagddfbfolaaDoorCells
import Derived.Test.YtgmkagddfbfolaaDoorLie
import Derived.Test.YtgmkagddfbfolaaDoorChecked
namespace Go.Proofs.YtgmkagddfbfolaaDoor.Span
open Go.RowKit
set_option linter.unusedVariables false
theorem info_span : (Tryd.prog.info? 34).map (fun i => (i.zero, i.size, i.bytes)) = some (some (.agg #[.int .i64 0, .int .i64 0]), 2, 16) := by kernel_rfl
theorem info_int : (Tryd.prog.info? 3).map (fun i => (i.zero, i.size, i.bytes)) = some (some (.int .i64 0), 1, 8) := by kernel_rfl
/-- A slice that reads as spans. -/
def SpIn (w : World) (B : Nat) (A : Option Addr) (n : Nat) (l : List S) : Prop :=
  l.length = n ∧ (0 < n → ∃ ad, A = some ad ∧ ad.block < B ∧ ∀ i s, l[i]? = some s → w.cell? (ad.add (i * 2)) = some (.int .i64 s.1) ∧ w.cell? ⟨(ad.add (i * 2)).block, (ad.add (i * 2)).off + 1, none⟩ = some (.int .i64 s.2))
theorem add_field (ad : Addr) (k : Nat) : ad.add (k + 1) = ⟨(ad.add k).block, (ad.add k).off + 1, none⟩ := by
  unfold Addr.add
  by_cases h : k = 0 <;> simp [h, Nat.add_assoc]
theorem SpIn.at_ {w : World} {B n k : Nat} {A : Option Addr} {l : List S} (h : SpIn w B A n l) (hk : k < n) :
    ∃ ad s, A = some ad ∧ ad.block < B ∧ l[k]? = some s ∧ w.cell? (ad.add (k * 2)) = some (.int .i64 s.1) ∧ w.cell? ⟨(ad.add (k * 2)).block, (ad.add (k * 2)).off + 1, none⟩ = some (.int .i64 s.2) := by
  obtain ⟨hl, h⟩ := h
  obtain ⟨ad, hA, hb, hc⟩ := h (by omega)
  have hp : l[k]? = some l[k] := by simp
  exact ⟨ad, l[k], hA, hb, hp, (hc k _ hp).1, (hc k _ hp).2⟩
theorem SpIn.below {w w' : World} {B n : Nat} {A : Option Addr} {l : List S} (h : SpIn w B A n l) (hb : Below B w w') : SpIn w' B A n l :=
  ⟨h.1, fun hn => by
    obtain ⟨ad, hA, hbl, hc⟩ := h.2 hn
    refine ⟨ad, hA, hbl, fun i p hp => ?_⟩
    rw [hb.cell (by rw [block_of_add]; exact hbl), hb.cell (p := ⟨(ad.add (i * 2)).block, (ad.add (i * 2)).off + 1, none⟩) (by simp only [block_of_add]; exact hbl)]
    exact hc i p hp⟩
theorem SpIn.more {w : World} {B B' n : Nat} {A : Option Addr} {l : List S} (h : SpIn w B A n l) (hb : B ≤ B') : SpIn w B' A n l :=
  ⟨h.1, fun hn => by
    obtain ⟨ad, hA, hbl, hc⟩ := h.2 hn
    exact ⟨ad, hA, by omega, hc⟩⟩
theorem SpIn.drewN {w : World} {B n : Nat} {A : Option Addr} {l : List S} (h : SpIn w B A n l) (k : Nat) : SpIn (w.drewN k) B A n l := h
theorem SpIn.nil (w : World) (B : Nat) (A : Option Addr) : SpIn w B A 0 [] := ⟨rfl, fun h => absurd h (by omega)⟩
/-- Spans as cells. -/
def scs : List S → List Value
  | [] => []
  | s :: t => .int .i64 s.1 :: .int .i64 s.2 :: scs t
theorem scs_length (l : List S) : (scs l).length = l.length * 2 := by
  induction l with
  | nil => rfl
  | cons s t ih => simp [scs, ih]; omega
theorem scs_append (l m : List S) : scs (l ++ m) = scs l ++ scs m := by
  induction l with
  | nil => rfl
  | cons s t ih => simp [scs, ih]
theorem scs_one (l : List S) : ∀ u ∈ scs l, u.oneCell' = true := by
  induction l with
  | nil => intro u hu; cases hu
  | cons s t ih =>
    intro u hu
    simp only [scs, List.mem_cons] at hu
    rcases hu with rfl | rfl | hu
    · rfl
    · rfl
    · exact ih u hu
theorem scs_get (l : List S) : ∀ (i : Nat) (s : S), l[i]? = some s → (scs l)[i * 2]? = some (.int .i64 s.1) ∧ (scs l)[i * 2 + 1]? = some (.int .i64 s.2) := by
  induction l with
  | nil => intro i s h; simp at h
  | cons x t ih =>
    intro i s h
    cases i with
    | zero => simp at h; subst h; exact ⟨rfl, rfl⟩
    | succ i =>
      rw [List.getElem?_cons_succ] at h
      have := ih i s h
      rw [show (i + 1) * 2 = i * 2 + 1 + 1 by omega, show i * 2 + 1 + 1 + 1 = (i * 2 + 1) + 1 + 1 by omega]
      exact this
theorem scs_set (l : List S) : ∀ (i : Nat) (s : S), scs (l.set i s) = ((scs l).set (i * 2) (.int .i64 s.1)).set (i * 2 + 1) (.int .i64 s.2) := by
  induction l with
  | nil => intro i s; rfl
  | cons x t ih =>
    intro i s
    cases i with
    | zero => rfl
    | succ i =>
      rw [show (i + 1) * 2 = i * 2 + 1 + 1 by omega, show i * 2 + 1 + 1 + 1 = (i * 2 + 1) + 1 + 1 by omega]
      simp only [List.set_cons_succ, scs, ih]
theorem spIn_of_reads {w : World} {B n : Nat} {A : Option Addr} {l : List S} (h : Reads w B 2 A n (scs l)) : SpIn w B A n l := by
  have hl : l.length = n := by have := h.1; rw [scs_length] at this; omega
  refine ⟨hl, fun hn => ?_⟩
  obtain ⟨ad, hA, hb, hc⟩ := h.2 hn
  refine ⟨ad, hA, hb, fun i s hs => ?_⟩
  obtain ⟨h1, h2⟩ := scs_get l i s hs
  exact ⟨hc _ _ h1, by rw [← add_field]; exact hc _ _ h2⟩
/-- What a new slice of spans is. -/
def NewS (w : World) (B : Nat) (A : Option Addr) (n c : Nat) (l : List S) : Prop :=
  n = l.length ∧ n ≤ c ∧ w.ownsRow B 34 2 (.slice A n c) n (scs l) ∧ SpIn w w.heap.size A n l
theorem newS_of_own {w : World} {B n : Nat} {v : Value} {l : List S} (h : w.ownsRow B 34 2 v n (scs l)) : ∃ A c, v = .slice A n c ∧ NewS w B A n c l := by
  obtain ⟨A, c, rfl, hc, hm, hr⟩ := own_form h
  have hn : n = l.length := by have := h.1; rw [scs_length] at this; omega
  exact ⟨A, c, rfl, hn, hc, h, spIn_of_reads hr⟩
theorem NewS.nil_ (w : World) (B : Nat) : NewS w B none 0 0 [] := ⟨rfl, Nat.le_refl _, World.ownsRow_nil w B _ 2, SpIn.nil _ _ _⟩
theorem NewS.below {w w' : World} {B : Nat} {A : Option Addr} {n c : Nat} {l : List S} (h : NewS w B A n c l) (hb : Below w.heap.size w w') : NewS w' B A n c l :=
  ⟨h.1, h.2.1, own_below h.2.2.1 hb, (h.2.2.2.below hb).more hb.size⟩
theorem NewS.less {w : World} {B B' : Nat} {A : Option Addr} {n c : Nat} {l : List S} (h : NewS w B A n c l) (hB : B' ≤ B) : NewS w B' A n c l :=
  ⟨h.1, h.2.1, own_less h.2.2.1 hB, h.2.2.2⟩
theorem NewS.drewN {w : World} {B : Nat} {A : Option Addr} {n c : Nat} {l : List S} (h : NewS w B A n c l) (k : Nat) : NewS (w.drewN k) B A n c l := h
theorem NewS.alloc {w : World} {B : Nat} {A : Option Addr} {n c : Nat} {l : List S} (h : NewS w B A n c l) (o : Obj) : NewS (w.alloc o) B A n c l :=
  h.below ((Below.refl _ _).alloc (Nat.le_refl _) o)
/-- The cells of one span of a new slice, and what it is when they are written over. -/
theorem NewS.cells_ {w : World} {B : Nat} {A : Option Addr} {n c : Nat} {l : List S} (h : NewS w B A n c l) (i : Nat) (s : S) (hs : l[i]? = some s) :
    ∃ g, A = some ⟨g, 0, none⟩ ∧ B ≤ g ∧ g < w.heap.size ∧ w.cell? ⟨g, i * 2, none⟩ = some (.int .i64 s.1) ∧ w.cell? ⟨g, i * 2 + 1, none⟩ = some (.int .i64 s.2) ∧
      w.frozen? ⟨g, i * 2, none⟩ = false ∧ w.frozen? ⟨g, i * 2 + 1, none⟩ = false ∧
      (∀ y : Int, NewS (w.setCell ⟨g, i * 2 + 1, none⟩ (.int .i64 y)) B A n c (l.set i (s.1, y))) ∧
      (∀ x y : Int, NewS ((w.setCell ⟨g, i * 2, none⟩ (.int .i64 x)).setCell ⟨g, i * 2 + 1, none⟩ (.int .i64 y)) B A n c (l.set i (x, y))) := by
  obtain ⟨h1, h2, h3, h4⟩ := h
  have hi : i < l.length := (List.getElem?_eq_some_iff.1 hs).1
  rcases h3.2 with ⟨hv, hn⟩ | ⟨g, cap, cur, hv, hB, hg, hnc, hm, hcs, ht⟩
  · omega
  · injection hv with e1 e2 e3
    subst e1 e3
    have hb : Blk w g 34 cur := hg
    obtain ⟨ad, s', hA, _, hs', c1, c2⟩ := h4.at_ (k := i) (by omega)
    injection hA with hA
    subst hA
    rw [hs] at hs'
    injection hs' with hs'
    subst hs'
    have hadd : (⟨g, 0, none⟩ : Addr).add (i * 2) = ⟨g, i * 2, none⟩ := by unfold Addr.add; split <;> simp_all
    rw [hadd] at c1 c2
    have key : ∀ (w' : World) (cs' : Array Value) (l' : List S), Blk w' g 34 cs' → cs'.size = c * 2 → l'.length = l.length → cs'.toList.take (n * 2) = scs l' → NewS w' B (some ⟨g, 0, none⟩) n c l' := by
      intro w' cs' l' hb2 hz hl ht2
      have hown : w'.ownsRow B 34 2 (.slice (some ⟨g, 0, none⟩) n c) n (scs l') := ⟨by rw [scs_length]; omega, .inr ⟨g, c, cs', rfl, hB, hb2, h2, hm, hz, ht2⟩⟩
      obtain ⟨A', c', e, hN⟩ := newS_of_own hown
      injection e with e1 _ e3
      subst e1 e3
      exact hN
    refine ⟨g, rfl, hB, hb.lt, c1, c2, hb.frozen _, hb.frozen _, fun y => ?_, fun x y => ?_⟩
    · refine key _ _ _ (hb.set_ (i * 2 + 1) (.int .i64 y)) (by simpa using hcs) (by simp) ?_
      have e : (scs l).set (i * 2) (.int .i64 s.1) = scs l := by
        obtain ⟨hlt, e⟩ := List.getElem?_eq_some_iff.1 (scs_get l i s hs).1
        rw [← e]
        exact List.set_getElem_self hlt
      rw [scs_set, e, ← ht]
      simp [List.take_set]
    · refine key _ _ _ ((hb.set_ (i * 2) (.int .i64 x)).set_ (i * 2 + 1) (.int .i64 y)) (by simpa using hcs) (by simp) ?_
      rw [scs_set, ← ht]
      simp [List.take_set]
end Go.Proofs.YtgmkagddfbfolaaDoor.Span
