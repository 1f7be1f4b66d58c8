/-
  Some texts of this claim, one behind the other: PickMath, PickCells, PickSame, PickRef, PickFidx. What each proves, and its condition, stands at its head.
-/
import Derived.Test.YtmoeilkaadnnoaaGreatZ16
import Derived.Test.YtmoeilkaadnnoaaGreatZ4
import Derived.Test.YtmoeilkaadnnoaaGreatZ1
import Derived.Test.YtmoeilkaadnnoaaGreatZ14
import Derived.Test.YtmoeilkaadnnoaaGreatChecked
import Derived.Laws.Cover1
/-
  Plain mathematics of picks: which may be; what is got, put and dropped. No program.
-/
namespace Go.Proofs.YtmoeilkaadnnoaaGreat.Pick
open Go.RowKit Go.Lib Go.Proofs.YtmoeilkaadnnoaaGreat.Span Go.Proofs.YtmoeilkaadnnoaaGreat.Need
open Go.Proofs.YtmoeilkaadnnoaaGreat.Label (runes fitL runes_end)
set_option linter.unusedVariables false
/-- A pick: its name, its version's place. -/
abbrev Pk := ByteArray × Int
theorem nlt_cases (a b : ByteArray) : nlt a b = true ∨ a = b ∨ nlt b a = true := by
  cases h1 : nlt a b
  · cases h2 : nlt b a
    · exact .inr (.inl (nlt_tri h1 h2))
    · exact .inr (.inr rfl)
  · exact .inl rfl
/-- How two texts stand, in the words of the walk. -/
theorem triP (a b : ByteArray) : (Op.bytesLess a.toList b.toList = true ∧ nlt b a = false ∧ (a.toList == b.toList) = false) ∨ (Op.bytesLess a.toList b.toList = false ∧ nlt b a = false ∧ (a.toList == b.toList) = true) ∨ (Op.bytesLess a.toList b.toList = false ∧ nlt b a = true ∧ (a.toList == b.toList) = false) := by
  rw [eq_names]
  show (nlt a b = true ∧ _) ∨ (nlt a b = false ∧ _) ∨ (nlt a b = false ∧ _)
  rcases nlt_cases a b with h | h | h
  · exact .inl ⟨h, nlt_asymm h, decide_eq_false (nlt_ne h)⟩
  · exact .inr (.inl ⟨by rw [h]; exact nlt_self b, by rw [h]; exact nlt_self b, decide_eq_true h⟩)
  · exact .inr (.inr ⟨nlt_asymm h, h, decide_eq_false fun e => nlt_ne h e.symm⟩)
/-- Names rise. -/
def RisesP (l : List Pk) : Prop := l.Pairwise fun x y => nlt x.1 y.1 = true
/-- The version of a name. -/
def getP : List Pk → ByteArray → Option Int
  | [], _ => none
  | q :: t, n => if q.1 = n then some q.2 else getP t n
theorem getP_none {l : List Pk} {n : ByteArray} (h : ∀ q ∈ l, q.1 ≠ n) : getP l n = none := by
  induction l with
  | nil => rfl
  | cons x t ih => rw [getP, if_neg (h x (by simp))]; exact ih fun q hq => h q (by simp [hq])
theorem getP_in {l : List Pk} {n : ByteArray} {v : Int} (h : getP l n = some v) : (n, v) ∈ l := by
  induction l with
  | nil => cases h
  | cons x t ih =>
    rw [getP] at h
    split at h
    · rename_i e
      injection h with h
      subst e h
      simp
    · exact List.mem_cons_of_mem _ (ih h)
theorem getP_mem {l : List Pk} (hr : RisesP l) {q : Pk} (hq : q ∈ l) : getP l q.1 = some q.2 := by
  induction l with
  | nil => cases hq
  | cons x t ih =>
    obtain ⟨h1, h2⟩ := List.pairwise_cons.1 hr
    rcases List.mem_cons.1 hq with rfl | hq
    · rw [getP, if_pos rfl]
    · rw [getP, if_neg (nlt_ne (h1 q hq)), ih h2 hq]
theorem getP_drop {l : List Pk} {n : ByteArray} {i : Nat} {q : Pk} (h : l[i]? = some q) : getP (l.drop i) n = if q.1 = n then some q.2 else getP (l.drop (i + 1)) n := by
  obtain ⟨hi, e⟩ := List.getElem?_eq_some_iff.1 h
  rw [List.drop_eq_getElem_cons hi, e]
  rfl
/-- One name more, in its place; 'i': it has been put already (the document's way). -/
def insP (n : Pk) : Bool → List Pk → List Pk
  | i, [] => if i = true then [] else [n]
  | i, x :: t => if i = false ∧ nlt n.1 x.1 = true then n :: x :: insP n true t else x :: insP n i t
theorem insP_true (n : Pk) (l : List Pk) : insP n true l = l := by
  induction l with
  | nil => rfl
  | cons x t ih => rw [insP, if_neg (by simp), ih]
theorem insP_lt {n x : Pk} {t : List Pk} (h : nlt n.1 x.1 = true) : insP n false (x :: t) = n :: x :: t := by rw [insP, if_pos ⟨rfl, h⟩, insP_true]
theorem insP_ge {n x : Pk} {t : List Pk} (h : nlt n.1 x.1 = false) : insP n false (x :: t) = x :: insP n false t := by rw [insP, if_neg (by rw [h]; simp)]
theorem insP_mem (n : Pk) (l : List Pk) {z : Pk} : z ∈ insP n false l ↔ z = n ∨ z ∈ l := by
  induction l with
  | nil => simp [insP]
  | cons y t ih =>
    cases h : nlt n.1 y.1 with
    | true => rw [insP_lt h]; simp
    | false =>
      rw [insP_ge h, List.mem_cons, List.mem_cons, ih]
      constructor
      · rintro (h | h | h)
        · exact .inr (.inl h)
        · exact .inl h
        · exact .inr (.inr h)
      · rintro (h | h | h)
        · exact .inr (.inl h)
        · exact .inl h
        · exact .inr (.inr h)
theorem insP_len (n : Pk) (l : List Pk) : (insP n false l).length = l.length + 1 := by
  induction l with
  | nil => rfl
  | cons y t ih =>
    cases h : nlt n.1 y.1 with
    | true => rw [insP_lt h]; simp
    | false => rw [insP_ge h]; simp [ih]
theorem insP_rises {n : Pk} {l : List Pk} (hl : RisesP l) (hn : ∀ q ∈ l, q.1 ≠ n.1) : RisesP (insP n false l) := by
  induction l with
  | nil => exact List.pairwise_singleton _ _
  | cons y t ih =>
    obtain ⟨h1, h2⟩ := List.pairwise_cons.1 hl
    cases h : nlt n.1 y.1 with
    | true =>
      rw [insP_lt h]
      refine List.pairwise_cons.2 ⟨fun z hz => ?_, hl⟩
      rcases List.mem_cons.1 hz with rfl | hz
      · exact h
      · exact nlt_trans h (h1 z hz)
    | false =>
      rw [insP_ge h]
      refine List.pairwise_cons.2 ⟨fun z hz => ?_, ih h2 fun q hq => hn q (by simp [hq])⟩
      rcases (insP_mem n t).1 hz with rfl | hz
      · rcases nlt_cases y.1 z.1 with g | g | g
        · exact g
        · exact absurd g (hn y (by simp))
        · rw [g] at h; cases h
      · exact h1 z hz
theorem insP_at {n : Pk} {l : List Pk} (hn : ∀ q ∈ l, q.1 ≠ n.1) (nm : ByteArray) : getP (insP n false l) nm = if n.1 = nm then some n.2 else getP l nm := by
  induction l with
  | nil => rfl
  | cons y t ih =>
    cases h : nlt n.1 y.1 with
    | true => rw [insP_lt h, getP]
    | false =>
      rw [insP_ge h, getP, getP, ih fun q hq => hn q (by simp [hq])]
      by_cases e : y.1 = nm
      · rw [if_pos e, if_pos e, if_neg (fun g => hn y (by simp) (by rw [e, g]))]
      · rw [if_neg e, if_neg e]
/-- Is there a version of a place? -/
def verOk (v : Int) : Bool := decide (0 ≤ v ∧ v < 1000000000)
theorem verOk_iff {v : Int} : verOk v = true ↔ 0 ≤ v ∧ v < 1000000000 := by unfold verOk; simp
/-- Picks that may be, behind a name. -/
def okQ : ByteArray → List Pk → Bool
  | _, [] => true
  | a, q :: t => (nlt a q.1 && (fitL (runes q.1 0) && verOk q.2)) && okQ q.1 t
def okP (l : List Pk) : Bool := okQ ByteArray.empty l
theorem okQ_drop {l : List Pk} {a : ByteArray} {i : Nat} {q : Pk} (h : l[i]? = some q) : okQ a (l.drop i) = ((nlt a q.1 && (fitL (runes q.1 0) && verOk q.2)) && okQ q.1 (l.drop (i + 1))) := by
  obtain ⟨hi, e⟩ := List.getElem?_eq_some_iff.1 h
  rw [List.drop_eq_getElem_cons hi, e]
  rfl
theorem okQ_all {l : List Pk} : ∀ {a : ByteArray}, okQ a l = true → ∀ q ∈ l, nlt a q.1 = true ∧ fitL (runes q.1 0) = true ∧ verOk q.2 = true := by
  induction l with
  | nil => intro a _ q hq; cases hq
  | cons x t ih =>
    intro a h q hq
    simp only [okQ, Bool.and_eq_true] at h
    obtain ⟨⟨h1, h2, h3⟩, h5⟩ := h
    rcases List.mem_cons.1 hq with rfl | hq
    · exact ⟨h1, h2, h3⟩
    · obtain ⟨g1, g2⟩ := ih h5 q hq
      exact ⟨nlt_trans h1 g1, g2⟩
theorem okQ_rises {l : List Pk} : ∀ {a : ByteArray}, okQ a l = true → RisesP l := by
  induction l with
  | nil => intro a _; exact List.Pairwise.nil
  | cons x t ih =>
    intro a h
    simp only [okQ, Bool.and_eq_true] at h
    exact List.pairwise_cons.2 ⟨fun q hq => (okQ_all h.2 q hq).1, ih h.2⟩
theorem okQ_of {l : List Pk} : ∀ {a : ByteArray}, RisesP l → (∀ q ∈ l, nlt a q.1 = true) → (∀ q ∈ l, fitL (runes q.1 0) = true ∧ verOk q.2 = true) → okQ a l = true := by
  induction l with
  | nil => intro a _ _ _; rfl
  | cons x t ih =>
    intro a hr ha hf
    obtain ⟨h1, h2⟩ := List.pairwise_cons.1 hr
    simp only [okQ, Bool.and_eq_true]
    exact ⟨⟨ha x (by simp), hf x (by simp)⟩, ih h2 h1 fun q hq => hf q (by simp [hq])⟩
/-- A name that may be is not empty: so nothing stands ahead of the first one. -/
theorem fit_some {x : ByteArray} (h : fitL (runes x 0) = true) : x ≠ ByteArray.empty := by
  rintro rfl
  rw [runes_end _ _ (by decide)] at h
  cases h
theorem empty_lt {x : ByteArray} (h : x ≠ ByteArray.empty) : nlt ByteArray.empty x = true := by
  rcases nlt_cases ByteArray.empty x with g | g | g
  · exact g
  · exact absurd g.symm h
  · rw [nlt_iff] at g
    rw [Lib.toList_data ByteArray.empty] at g
    exact absurd g (List.not_lt_nil _)
theorem okP_iff {l : List Pk} : okP l = true ↔ RisesP l ∧ ∀ q ∈ l, fitL (runes q.1 0) = true ∧ verOk q.2 = true :=
  ⟨fun h => ⟨okQ_rises h, fun q hq => (okQ_all h q hq).2⟩, fun h => okQ_of h.1 (fun q hq => empty_lt (fit_some (h.2 q hq).1)) h.2⟩
/-- Those of no such name. -/
def dropP (l : List Pk) (n : ByteArray) : List Pk := l.filter fun q => decide (q.1 ≠ n)
theorem dropP_take {l : List Pk} {n : ByteArray} {i : Nat} {q : Pk} (h : l[i]? = some q) : dropP (l.take (i + 1)) n = if q.1 = n then dropP (l.take i) n else dropP (l.take i) n ++ [q] := by
  unfold dropP
  rw [take_snoc' l i q h, List.filter_append]
  by_cases e : q.1 = n <;> simp [e]
theorem dropP_mem {l : List Pk} {n : ByteArray} {q : Pk} : q ∈ dropP l n ↔ q ∈ l ∧ q.1 ≠ n := by unfold dropP; simp
theorem dropP_rises {l : List Pk} (h : RisesP l) (n : ByteArray) : RisesP (dropP l n) := List.Pairwise.filter _ h
theorem dropP_ok {l : List Pk} (h : okP l = true) (n : ByteArray) : okP (dropP l n) = true :=
  okP_iff.2 ⟨dropP_rises (okP_iff.1 h).1 n, fun q hq => (okP_iff.1 h).2 q (dropP_mem.1 hq).1⟩
theorem dropP_none {l : List Pk} {n : ByteArray} (h : ∀ q ∈ l, q.1 ≠ n) : dropP l n = l := by
  unfold dropP
  rw [List.filter_eq_self]
  intro q hq
  simp [h q hq]
theorem dropP_get {l : List Pk} (n x : ByteArray) : getP (dropP l n) x = if x = n then none else getP l x := by
  induction l with
  | nil => simp [dropP, getP]
  | cons q t ih =>
    by_cases e : q.1 = n
    · have : dropP (q :: t) n = dropP t n := by unfold dropP; simp [e]
      rw [this, ih]
      by_cases g : x = n
      · rw [if_pos g, if_pos g]
      · rw [if_neg g, if_neg g, getP, if_neg (fun f => g (by rw [← f, e]))]
    · have : dropP (q :: t) n = q :: dropP t n := by unfold dropP; simp [e]
      rw [this, getP, ih, getP]
      by_cases g : q.1 = x
      · rw [if_pos g, if_neg (fun f => e (by rw [g, f])), if_pos g]
      · rw [if_neg g, if_neg g]
/-- What is put stands in its place. -/
def putP (l : List Pk) (p : Pk) : List Pk := insP p false (dropP l p.1)
theorem drop_ne {l : List Pk} {n : ByteArray} : ∀ q ∈ dropP l n, q.1 ≠ n := fun q hq => (dropP_mem.1 hq).2
theorem putP_ok {l : List Pk} {p : Pk} (h : okP l = true) (hf : fitL (runes p.1 0) = true) (hv : verOk p.2 = true) : okP (putP l p) = true := by
  obtain ⟨h1, h2⟩ := okP_iff.1 (dropP_ok h p.1)
  refine okP_iff.2 ⟨insP_rises h1 drop_ne, fun q hq => ?_⟩
  rcases (insP_mem p _).1 hq with rfl | hq
  · exact ⟨hf, hv⟩
  · exact h2 q hq
theorem putP_get {l : List Pk} (p : Pk) (x : ByteArray) : getP (putP l p) x = if p.1 = x then some p.2 else getP l x := by
  unfold putP
  rw [insP_at drop_ne, dropP_get]
  by_cases e : p.1 = x
  · rw [if_pos e, if_pos e]
  · rw [if_neg e, if_neg e, if_neg (fun g => e g.symm)]
theorem putP_len (l : List Pk) (p : Pk) : (putP l p).length ≤ l.length + 1 := by
  unfold putP
  rw [insP_len]
  have : (dropP l p.1).length ≤ l.length := List.length_filter_le _ _
  omega
/-- Two lists whose names rise and that tell the same of each name are one. -/
theorem same_get : ∀ {l m : List Pk}, RisesP l → RisesP m → (∀ x, getP l x = getP m x) → l = m
  | [], [], _, _, _ => rfl
  | [], y :: m, _, _, h => by
    have := h y.1
    rw [getP, getP, if_pos rfl] at this
    cases this
  | x :: l, [], _, _, h => by
    have := h x.1
    rw [getP, getP, if_pos rfl] at this
    cases this
  | x :: l, y :: m, hl, hm, h => by
    obtain ⟨a1, a2⟩ := List.pairwise_cons.1 hl
    obtain ⟨b1, b2⟩ := List.pairwise_cons.1 hm
    have hxy : x.1 = y.1 := by
      rcases nlt_cases x.1 y.1 with g | g | g
      · have e := h x.1
        rw [getP, if_pos rfl, getP_none] at e
        · cases e
        · intro q hq f
          rcases List.mem_cons.1 hq with rfl | hq
          · rw [f, nlt_self] at g; cases g
          · have := nlt_trans g (b1 q hq)
            rw [f, nlt_self] at this; cases this
      · exact g
      · have e := h y.1
        rw [getP_none, getP, if_pos rfl] at e
        · cases e
        · intro q hq f
          rcases List.mem_cons.1 hq with rfl | hq
          · rw [f, nlt_self] at g; cases g
          · have := nlt_trans g (a1 q hq)
            rw [f, nlt_self] at this; cases this
    have hv : x.2 = y.2 := by
      have e := h x.1
      rw [getP, if_pos rfl, getP, if_pos hxy.symm] at e
      injection e
    have e1 : x = y := Prod.ext hxy hv
    subst e1
    congr 1
    refine same_get a2 b2 fun z => ?_
    have e := h z
    rw [getP, getP] at e
    by_cases g : x.1 = z
    · rw [getP_none (fun q hq f => by have := a1 q hq; rw [f, ← g, nlt_self] at this; cases this), getP_none (fun q hq f => by have := b1 q hq; rw [f, ← g, nlt_self] at this; cases this)]
    · rwa [if_neg g, if_neg g] at e
/-- What was put is dropped again. -/
theorem put_drop {l : List Pk} (hl : RisesP l) (p : Pk) : dropP (putP l p) p.1 = dropP l p.1 := by
  refine same_get (dropP_rises (insP_rises (dropP_rises hl _) drop_ne) _) (dropP_rises hl _) fun x => ?_
  rw [dropP_get, dropP_get, putP_get]
  by_cases e : x = p.1
  · rw [if_pos e, if_pos e]
  · rw [if_neg e, if_neg e, if_neg (fun g => e g.symm)]
end Go.Proofs.YtmoeilkaadnnoaaGreat.Pick
/-
  Slices of picks in memory: what came in with a call, and new ones of the call's own. No condition.
-/
namespace Go.Proofs.YtmoeilkaadnnoaaGreat.Pick
open Go Go.RowKit Go.Lib
set_option linter.unusedVariables false
theorem info_pick : (Tryz.prog.info? 63).map (fun i => (i.zero, i.size, i.bytes)) = some (some (.agg #[.string ByteArray.empty, .int .i64 0]), 2, 24) := by kernel_rfl
theorem alloc_b (w : World) (o : Obj) : Below w.heap.size w (w.alloc o) := (Below.refl _ _).alloc (Nat.le_refl _) o
/-- Picks as cells. -/
def pks : List Pk → List Value
  | [] => []
  | s :: t => .string s.1 :: .int .i64 s.2 :: pks t
theorem pks_length (l : List Pk) : (pks l).length = l.length * 2 := by
  induction l with
  | nil => rfl
  | cons s t ih => simp [pks, ih]; omega
theorem pks_append (l m : List Pk) : pks (l ++ m) = pks l ++ pks m := by
  induction l with
  | nil => rfl
  | cons s t ih => simp [pks, ih]
theorem pks_one (l : List Pk) : ∀ u ∈ pks l, u.oneCell' = true := by
  induction l with
  | nil => intro u hu; cases hu
  | cons s t ih =>
    intro u hu
    simp only [pks, List.mem_cons] at hu
    rcases hu with rfl | rfl | hu
    · rfl
    · rfl
    · exact ih u hu
theorem pks_get (l : List Pk) : ∀ (i : Nat) (s : Pk), l[i]? = some s → (pks l)[i * 2]? = some (.string s.1) ∧ (pks l)[i * 2 + 1]? = some (.int .i64 s.2) := by
  induction l with
  | nil => intro i s h; simp at h
  | cons x t ih =>
    intro i s h
    cases i with
    | zero => simp at h; subst h; exact ⟨rfl, rfl⟩
    | succ i =>
      rw [List.getElem?_cons_succ] at h
      have := ih i s h
      rw [show (i + 1) * 2 = i * 2 + 1 + 1 by omega, show i * 2 + 1 + 1 + 1 = (i * 2 + 1) + 1 + 1 by omega]
      exact this
theorem pks_drop (l : List Pk) : ∀ k : Nat, (pks l).drop (k * 2) = pks (l.drop k) := by
  induction l with
  | nil => intro k; simp [pks]
  | cons x t ih =>
    intro k
    cases k with
    | zero => rfl
    | succ k =>
      rw [show (k + 1) * 2 = k * 2 + 1 + 1 by omega]
      simp only [pks, List.drop_succ_cons, ih]
theorem pks_take (l : List Pk) : ∀ k : Nat, (pks l).take (k * 2) = pks (l.take k) := by
  induction l with
  | nil => intro k; simp [pks]
  | cons x t ih =>
    intro k
    cases k with
    | zero => simp [pks]
    | succ k =>
      rw [show (k + 1) * 2 = k * 2 + 1 + 1 by omega]
      simp only [pks, List.take_succ_cons, ih]
theorem add_field (ad : Addr) (k : Nat) : ad.add (k + 1) = ⟨(ad.add k).block, (ad.add k).off + 1, none⟩ := by
  unfold Addr.add
  by_cases h : k = 0 <;> simp [h, Nat.add_assoc]
/-- A slice that reads as picks. -/
def PkIn (w : World) (B : Nat) (A : Option Addr) (n : Nat) (l : List Pk) : Prop := Reads w B 2 A n (pks l)
section
variable {w w' : World} {B B' n k : Nat} {A : Option Addr} {l : List Pk}
theorem PkIn.len (h : PkIn w B A n l) : l.length = n := by
  have := h.1
  rw [pks_length] at this
  omega
theorem PkIn.at_ (h : PkIn w B A n l) (hk : k < n) :
    ∃ ad s, A = some ad ∧ ad.block < B ∧ l[k]? = some s ∧ w.cell? (ad.add (k * 2)) = some (.string s.1) ∧ w.cell? ⟨(ad.add (k * 2)).block, (ad.add (k * 2)).off + 1, none⟩ = some (.int .i64 s.2) := by
  have hl := h.len
  obtain ⟨ad, hA, hb, hc⟩ := h.2 (by omega)
  obtain ⟨g1, g2⟩ := pks_get l k (l[k]'(by omega)) (by simp)
  refine ⟨ad, l[k]'(by omega), hA, hb, by simp, hc _ _ g1, ?_⟩
  rw [← add_field]
  exact hc _ _ g2
theorem PkIn.below (h : PkIn w B A n l) (hb : Below B w w') : PkIn w' B A n l := Reads.below h hb
theorem PkIn.more (h : PkIn w B A n l) (hb : B ≤ B') : PkIn w B' A n l := Reads.more h hb
theorem PkIn.nil (w : World) (B : Nat) (A : Option Addr) : PkIn w B A 0 [] := ⟨rfl, fun h => absurd h (by omega)⟩
theorem PkIn.cut (h : PkIn w B A n l) {c : Nat} (hk : k ≤ n) (hc : n ≤ c) : PkIn w B (if c = k then A else A.map (·.add (k * 2))) (n - k) (l.drop k) := by
  have := Reads.cut h hk hc
  rw [pks_drop] at this
  exact this
theorem PkIn.take (h : PkIn w B A n l) (hk : k ≤ n) : PkIn w B A k (l.take k) := by
  have hl := h.len
  refine ⟨by rw [pks_length, List.length_take]; omega, fun hn => ?_⟩
  obtain ⟨ad, hA, hb, hc⟩ := h.2 (by omega)
  refine ⟨ad, hA, hb, fun j u hu => ?_⟩
  rw [← pks_take, List.getElem?_take] at hu
  split at hu
  · exact hc j u hu
  · cases hu
end
def PkOn (w : World) (A : Option Addr) (n : Nat) (l : List Pk) : Prop := PkIn w w.heap.size A n l
theorem PkOn.on {w w' : World} {A : Option Addr} {n : Nat} {l : List Pk} (h : PkOn w A n l) (hb : Below w.heap.size w w') : PkOn w' A n l := (PkIn.below h hb).more hb.size
theorem PkOn.len {w : World} {A : Option Addr} {n : Nat} {l : List Pk} (h : PkOn w A n l) : l.length = n := PkIn.len h
theorem pkOn_of {w : World} {A : Option Addr} {n : Nat} {l : List Pk} (h : RowOf (liePair lieStr (lieInt .i64)) w w.heap.size A n l) : PkOn w A n l ∧ ∀ q ∈ l, q.1.size ≤ maxLen := by
  have key : ∀ i (q : Pk), l[i]? = some q → ∃ ad, A = some ad ∧ ad.block < w.heap.size ∧ w.cell? (ad.add (i * 2)) = some (.string q.1) ∧ w.cell? (ad.add (i * 2 + 1)) = some (.int .i64 q.2) ∧ q.1.size ≤ maxLen := by
    intro i q hq
    have hi : i < l.length := (List.getElem?_eq_some_iff.1 hq).1
    obtain ⟨ad, hA, hB, hc⟩ := h.2 (by have := h.1; omega)
    obtain ⟨cs, h1, c1, c2, e, ⟨e1, hs⟩, ⟨e2, _⟩⟩ := hc i q hq
    subst e e1 e2
    have x0 := h1 0 (by simp)
    have x1 := h1 1 (by simp)
    rw [add_of_add] at x0 x1
    exact ⟨ad, hA, hB, by simpa [liePair, lieInt, lieStr] using x0, by simpa [liePair, lieInt, lieStr] using x1, hs⟩
  refine ⟨⟨by rw [pks_length, h.1], fun hn => ?_⟩, fun q hq => ?_⟩
  · obtain ⟨ad, hA, hB, _⟩ := h.2 hn
    refine ⟨ad, hA, hB, fun j u hu => ?_⟩
    have hj : j < l.length * 2 := by
      have := (List.getElem?_eq_some_iff.1 hu).1
      rwa [pks_length] at this
    have hi : l[j / 2]? = some (l[j / 2]'(by omega)) := by simp
    obtain ⟨ad', hA', _, c1, c2, _⟩ := key _ _ hi
    rw [hA] at hA'
    injection hA' with hA'
    subst hA'
    obtain ⟨g1, g2⟩ := pks_get l _ _ hi
    rcases Nat.mod_two_eq_zero_or_one j with h0 | h0
    · have ej : j = j / 2 * 2 := by omega
      rw [ej, g1] at hu
      injection hu with hu
      subst hu
      rw [← ej] at c1
      exact c1
    · have ej : j = j / 2 * 2 + 1 := by omega
      rw [ej, g2] at hu
      injection hu with hu
      subst hu
      rw [← ej] at c2
      exact c2
  · obtain ⟨i, hi, rfl⟩ := List.getElem_of_mem hq
    obtain ⟨_, _, _, _, _, h5⟩ := key i l[i] (by simp)
    exact h5
/-- What a new slice of picks is. -/
def NewP (w : World) (B : Nat) (A : Option Addr) (n c : Nat) (l : List Pk) : Prop :=
  n = l.length ∧ n ≤ c ∧ w.ownsRow B 63 2 (.slice A n c) n (pks l) ∧ PkOn w A n l
theorem newP_of_own {w : World} {B n : Nat} {v : Value} {l : List Pk} (h : w.ownsRow B 63 2 v n (pks l)) : ∃ A c, v = .slice A n c ∧ NewP w B A n c l := by
  obtain ⟨A, c, rfl, hc, hm, hr⟩ := own_form h
  have hn : n = l.length := by have := h.1; rw [pks_length] at this; omega
  exact ⟨A, c, rfl, hn, hc, h, hr⟩
theorem NewP.nil_ (w : World) (B : Nat) : NewP w B none 0 0 [] := ⟨rfl, Nat.le_refl _, World.ownsRow_nil w B _ 2, PkIn.nil _ _ _⟩
theorem NewP.below {w w' : World} {B : Nat} {A : Option Addr} {n c : Nat} {l : List Pk} (h : NewP w B A n c l) (hb : Below w.heap.size w w') : NewP w' B A n c l :=
  ⟨h.1, h.2.1, own_below h.2.2.1 hb, h.2.2.2.on hb⟩
theorem NewP.less {w : World} {B B' : Nat} {A : Option Addr} {n c : Nat} {l : List Pk} (h : NewP w B A n c l) (hB : B' ≤ B) : NewP w B' A n c l :=
  ⟨h.1, h.2.1, own_less h.2.2.1 hB, h.2.2.2⟩
theorem reads_pick (w : World) (nm : ByteArray) (v : Int) (g : Nat) (hg : g = w.heap.size) : Reads (w.alloc (.cells #[.string nm, .int .i64 v] 63)) (g + 1) 2 (some ⟨g, 0, none⟩) 1 (pks [(nm, v)]) := by
  subst hg
  have h := Reads.newL w 63 #[.string nm, .int .i64 v]
  exact ⟨rfl, fun _ => h.2 (by simp)⟩
/-- What a call makes: a new slice of these picks. -/
def MakesP (w : World) (L : List Pk) (e : Ending) (w' : World) : Prop := ∃ A n c, e = .returned (.slice A n c) ∧ NewP w' 0 A n c L ∧ Below w.heap.size w w'
theorem MakesP.le {w w' : World} {A : Option Addr} {n c B : Nat} {L : List Pk} (h : NewP w B A n c L) : n ≤ c ∧ L.length = n := ⟨h.2.1, h.1.symm⟩
end Go.Proofs.YtmoeilkaadnnoaaGreat.Pick
/-
  Contracts of Same, the program's (over the library's Equal) and the document's: whether two lists are alike. Condition: the slices read as picks.
-/
namespace Go.Proofs.YtmoeilkaadnnoaaGreat.Pick
open Go Go.RowKit Go.Lib Go.Proofs.YtmoeilkaadnnoaaGreat.Need
set_option linter.unusedVariables false
/-- Whether two pairs are alike. -/
def sameP (a : ByteArray) (b : Int) (c : ByteArray) (d : Int) : Bool := (a.toList == c.toList) && (b == d)
set_option maxRecDepth 100000 in
/-- '==' on picks. -/
theorem eq_pick (a : ByteArray) (b : Int) (c : ByteArray) (d : Int) (w : World) : (Op.equalIn 10000 63 (.agg #[.string a, .int .i64 b]) (.agg #[.string c, .int .i64 d])).run Tryz.prog w = .ok (sameP a b c d) w := by
  have hf : Tryz.prog.underlying 63 = some (.struct (Tryz.prog.fieldsOf 63)) := by kernel_rfl
  have hs : Tryz.prog.stoodInHeld 63 = false := by kernel_rfl
  have hl := hf.symm.trans Tryz.underlying63
  injection hl with hl
  injection hl with hl
  have ha : ∀ w, (isAgg 3).run Tryz.prog w = .ok false w := Tryz.isAgg3
  rw [run_equalIn_struct w 9999 _ _ _ hf hs, hl]
  unfold sameP
  have ha2 : ∀ w, (isAgg 9).run Tryz.prog w = .ok false w := Tryz.isAgg9
  cases hx : (a.toList == c.toList) <;> cases hy : (b == d) <;>
    simp [Op.eqFields, part, ha, ha2, run_equalIn_string _ 9998 9 _ _ Tryz.underlying9, run_equalIn_int _ 9998 3 .i64 .i64 _ _ Tryz.underlying3, hx, hy]
theorem samep_iff (s t : Pk) : sameP s.1 s.2 t.1 t.2 = decide (s = t) := by
  unfold sameP
  rw [eq_names, Bool.eq_iff_iff]
  simp [Prod.ext_iff]
theorem samep_snoc {l m : List Pk} {i : Nat} {s t : Pk} (h : l.take i = m.take i) (h1 : l[i]? = some s) (h2 : m[i]? = some t) (h3 : s = t) : l.take (i + 1) = m.take (i + 1) := by
  rw [List.take_add_one, List.take_add_one, h, h1, h2, h3]
theorem samep_ne {l m : List Pk} {i : Nat} {s t : Pk} (h1 : l[i]? = some s) (h2 : m[i]? = some t) (h3 : ¬ s = t) : decide (l = m) = false := by
  refine decide_eq_false fun e => ?_
  subst e
  rw [h1] at h2
  injection h2 with h2
  exact h3 h2
set_option maxHeartbeats 1000000 in
theorem refSameP_any {B n c B' n' c' : Nat} {A A' : Option Addr} {l m : List Pk} (w : World) (h : PkIn w B A n l) (h' : PkIn w B' A' n' m) (hn : n ≤ 1000000001) (hn' : n' ≤ 1000000001) :
    Calls Tryz.prog 13 #[.slice A n c, .slice A' n' c'] w fun e w' => e = .returned (.bool (decide (l = m))) ∧ ∃ k, w' = w.drewN k := by
  have hl : l.length = n := h.len
  have hm : m.length = n' := h'.len
  have heq := eq_pick
  obtain ⟨r, hr⟩ : ∃ r, r = decide (l = m) := ⟨_, rfl⟩
  rw [← hr]
  have Hr := hide hr
  clear hr
  by_cases hnn : n = n'
  · subst hnn
    go_enter Tryz.func13, Tryz.ntmps13
    go_wp2
    go_loopw [5] (fun v wr => ∃ (i : Nat), i ≤ n ∧ v = .int .i64 (i : Int) ∧ Hid (l.take i = m.take i) ∧ ∃ k, wr = w.drewN k) (fun v _ => n - (RowKit.intOf v).toNat)
    case atStart => exact ⟨0, by omega, rfl, hide rfl, 0, rfl⟩
    case round =>
      obtain ⟨i, hi, rfl, hf, k, rfl⟩ := hrel
      by_cases hlt : i < n
      · obtain ⟨ad, s, rfl, hbl, hx, c1, c2⟩ := h.at_ hlt
        obtain ⟨ad', t, rfl, hbl', hx', c1', c2'⟩ := h'.at_ hlt
        have hsn := hide (@samep_snoc l m i s t hf.out hx hx')
        have hne := hide (@samep_ne l m i s t hx hx')
        have hsi := hide (samep_iff s t)
        obtain ⟨x, y⟩ := s
        obtain ⟨x', y'⟩ := t
        simp only [] at hsn hne hsi c1 c2 c1' c2'
        clear hx hx' hf
        have hq := heq x y x' y'
        clear heq
        generalize hb : sameP x y x' y' = b at *
        clear hb
        go_upto_region 6 with fail
        go_quiet (fail)
        cases b
        · go_wp2_with fail
          go_ret
          have e := hne.out (by intro e; have := hsi.out; rw [e] at this; simp at this)
          have e2 : r = false := by rw [Hr.out]; exact e
          exact ⟨by rw [e2]; rfl, _, World.drewN_drewN _ _ _⟩
        · go_wp2_with fail
          have e := hsn.out (by have := hsi.out; simpa using this)
          go_roundw
          case rel => exact ⟨i + 1, by omega, by go_num, e, _, rfl⟩
          case measure => simp [RowKit.intOf]; omega
      · have hi2 : i = n := by omega
        subst hi2
        have hq := hf.out
        rw [List.take_of_length_le (by omega), List.take_of_length_le (by omega)] at hq
        have e2 : r = true := by rw [Hr.out]; exact decide_eq_true hq
        have E2 := hide e2
        clear hf hq e2
        go_wp2
        go_ret
        exact ⟨by rw [E2.out]; rfl, _, rfl⟩
  · have e2 : r = false := by rw [Hr.out]; exact decide_eq_false fun e => hnn (by rw [← hl, ← hm, e])
    have E2 := hide e2
    clear e2
    go_enter Tryz.func13, Tryz.ntmps13
    go_wp2
    go_ret
    exact ⟨by rw [E2.out]; rfl, 0, rfl⟩
end Go.Proofs.YtmoeilkaadnnoaaGreat.Pick
/-
  Contracts of the document's Get, Drop and Put. Condition: no more than 1,000,000 picks.
-/
namespace Go.Proofs.YtmoeilkaadnnoaaGreat.Pick
open Go Go.RowKit Go.Lib Go.Proofs.YtmoeilkaadnnoaaGreat.Need
set_option linter.unusedVariables false
set_option maxHeartbeats 2000000 in
theorem refGetP_any (l : List Pk) (nm : ByteArray) (A : Option Addr) (n c : Nat) (w : World) (h : PkOn w A n l) (hn : n ≤ 1000000) :
    Calls Tryz.prog 37 #[.slice A n c, .string nm] w fun e w' => e = .returned (.tuple #[.int .i64 ((getP l nm).getD 0), .bool (getP l nm).isSome]) ∧ w' = w := by
  have hlen := hide h.len
  have Hd := hide (fun i q => @getP_drop l nm i q)
  obtain ⟨r, hr⟩ : ∃ r, r = getP l nm := ⟨_, rfl⟩
  rw [← hr]
  have Hr := hide hr
  clear hr
  go_enter Tryz.func37, Tryz.ntmps37
  go_wp2
  go_loopw [6] (fun v wr => ∃ i : Nat, i ≤ n ∧ v = .int .i64 (i : Int) ∧ Hid (r = getP (l.drop i) nm) ∧ wr = w) (fun v _ => n - (RowKit.intOf v).toNat)
  case atStart => exact ⟨0, by omega, rfl, Hr, rfl⟩
  case round =>
    obtain ⟨i, hi, rfl, hf, rfl⟩ := hrel
    by_cases hlt : i < n
    · obtain ⟨ad, q, rfl, hbl, hx, c1, c2⟩ := PkIn.at_ h hlt
      have hd := hf.out.trans (Hd.out i q hx)
      have he := eq_names q.1 nm
      clear hx hf Hd Hr h
      by_cases hq : q.1 = nm
      · rw [if_pos hq] at hd
        rw [decide_eq_true hq] at he
        have e := hide hd
        clear hd hq
        go_wp2
        go_ret2
        exact ⟨by rw [e.out]; rfl, rfl⟩
      · rw [if_neg hq] at hd
        rw [decide_eq_false hq] at he
        have e := hide hd
        clear hd hq
        go_wp2
        go_roundw
        case rel => exact ⟨i + 1, by omega, by go_num, e, by trivial⟩
        case measure => simp [RowKit.intOf]; omega
    · have e : Hid (r = none) := hide (by rw [hf.out, List.drop_of_length_le (by have := hlen.out; omega)]; rfl)
      clear hf
      go_wp2
      go_ret2
      exact ⟨by rw [e.out]; rfl, rfl⟩
set_option maxHeartbeats 4000000 in
set_option maxRecDepth 100000 in
theorem refDropP_any (l : List Pk) (nm : ByteArray) (A : Option Addr) (n c : Nat) (w : World) (h : PkOn w A n l) (hn : n ≤ 1000000) :
    Calls Tryz.prog 82 #[.slice A n c, .string nm] w (MakesP w (dropP l nm)) := by
  obtain ⟨i0, hi0, hz0, hz1, hz2⟩ := info_parts info_pick
  unfold MakesP
  have hlen := hide h.len
  have Hd := hide (fun i q => @dropP_take l nm i q)
  have Hn : Hid (dropP (l.take 0) nm = []) := hide rfl
  have Hall : Hid (dropP (l.take n) nm = dropP l nm) := hide (by rw [List.take_of_length_le (by have := hlen.out; omega)])
  have Hle := hide (fun i => (show (dropP (l.take i) nm).length ≤ i from Nat.le_trans (List.length_filter_le _ _) (by rw [List.length_take]; omega)))
  generalize dropP l nm = R at *
  go_enter Tryz.func82, Tryz.ntmps82
  go_wp2
  go_loopw [5, 6] (fun u v wr => ∃ (i : Nat) (Ao : Option Addr) (no co : Nat), i ≤ n ∧ u = .slice Ao no co ∧ v = .int .i64 (i : Int) ∧ no ≤ i ∧ NewP wr w.heap.size Ao no co (dropP (l.take i) nm) ∧ Below w.heap.size w wr) (fun _ v _ => n - (RowKit.intOf v).toNat)
  case atStart => exact ⟨0, none, 0, 0, by omega, rfl, rfl, Nat.le_refl _, by rw [Hn.out]; exact NewP.nil_ _ _, Below.refl _ _⟩
  case round =>
    obtain ⟨i, Ao, no, co, hi, rfl, rfl, hno, hN, hb⟩ := hrel
    have hbs := hb.size
    by_cases hlt : i < n
    · obtain ⟨ad, q, rfl, hbl, hx, c1, c2⟩ := PkIn.at_ (PkIn.below h hb) hlt
      have hd := Hd.out i q hx
      have he := eq_names q.1 nm
      obtain ⟨x, v⟩ := q
      simp only [] at c1 c2 hd he
      clear hx
      by_cases hq : x = nm
      · rw [if_pos hq] at hd
        rw [decide_eq_true hq] at he
        rw [← hd] at hN
        clear hd hq h
        go_wp2
        go_roundw
        case rel => exact ⟨i + 1, Ao, no, co, by omega, rfl, by go_num, by omega, hN, hb⟩
        case measure => simp [RowKit.intOf]; omega
      · rw [if_neg hq] at hd
        rw [decide_eq_false hq] at he
        have hd2 := hide hd
        have hown := hN.2.2.1
        clear hd hq h
        go_wp2_with (at_builtin
                     refine wpList_append_any _ rfl (.tmp 20) (.tmp 25) _ rfl w.heap.size 63 i0 _ 2 24 Tryz.underlying27 hi0 hz0 hz1 hz2 rfl (by omega) _ _ _ rfl
                       (own_below hown ?_) _ _ 1 _ _ rfl (reads_pick _ x v _ (by simp)) (pks_one _) (by unfold maxLen; omega) (by omega) (by simp; omega) ?_
                     · exact (Below.refl _ _).alloc (Nat.le_refl _) _
                     intro v2 w2 hown2 hg2 hat2
                     have hb2 : Below w.heap.size w w2 := (hb.alloc hb.size _).grown hg2 (by simp; omega) (fun k hk => (hown.lt k hk).1)
                     have hs2 := hb2.size
                     rw [← pks_append, ← hd2.out] at hown2
                     obtain ⟨A2, c2', rfl, hN2⟩ := newP_of_own hown2)
        go_roundw
        case rel => exact ⟨i + 1, A2, no + 1, c2', by omega, rfl, by go_num, by omega, hN2, hb2⟩
        case measure => simp [RowKit.intOf]; omega
    · have hi2 : i = n := by omega
      subst hi2
      rw [Hall.out] at hN
      go_wp2
      go_ret
      exact ⟨Ao, no, co, rfl, hN.less (Nat.zero_le _), hb⟩
theorem ins_end (p : Pk) (b : Bool) {d : List Pk} {i : Nat} (h : d.length ≤ i) : insP p b (d.drop i) = if b = true then [] else [p] := by
  rw [List.drop_of_length_le h]; rfl
theorem ins_past (p : Pk) {d : List Pk} {i : Nat} {x : Pk} (h : d[i]? = some x) : insP p true (d.drop i) = x :: insP p true (d.drop (i + 1)) := by
  obtain ⟨hi, e⟩ := List.getElem?_eq_some_iff.1 h
  rw [List.drop_eq_getElem_cons hi, e, insP, if_neg (by simp)]
theorem ins_at (p : Pk) {d : List Pk} {i : Nat} {x : Pk} (h : d[i]? = some x) (g : nlt p.1 x.1 = true) : insP p false (d.drop i) = p :: x :: insP p true (d.drop (i + 1)) := by
  obtain ⟨hi, e⟩ := List.getElem?_eq_some_iff.1 h
  rw [List.drop_eq_getElem_cons hi, e, insP, if_pos ⟨rfl, g⟩]
theorem ins_ahead (p : Pk) {d : List Pk} {i : Nat} {x : Pk} (h : d[i]? = some x) (g : nlt p.1 x.1 = false) : insP p false (d.drop i) = x :: insP p false (d.drop (i + 1)) := by
  obtain ⟨hi, e⟩ := List.getElem?_eq_some_iff.1 h
  rw [List.drop_eq_getElem_cons hi, e, insP, if_neg (by rw [g]; simp)]
set_option maxHeartbeats 8000000 in
set_option maxRecDepth 100000 in
theorem refPutP_any (l : List Pk) (pn : ByteArray) (pv : Int) (A : Option Addr) (n c : Nat) (w : World) (h : PkOn w A n l) (hn : n ≤ 1000000) :
    Calls Tryz.prog 57 #[.slice A n c, .agg #[.string pn, .int .i64 pv]] w (MakesP w (putP l (pn, pv))) := by
  obtain ⟨i0, hi0, hz0, hz1, hz2⟩ := info_parts info_pick
  unfold MakesP
  have hlen := h.len
  have hdl : (dropP l pn).length ≤ 1000000 := Nat.le_trans (List.length_filter_le _ _) (by omega)
  have HD := hide (fun wx (hbx : Below w.heap.size w wx) => refDropP_any l pn A n c wx (h.on hbx) hn)
  obtain ⟨R, hR⟩ : ∃ R, R = putP l (pn, pv) := ⟨_, rfl⟩
  rw [← hR]
  have HR : Hid (R = insP (pn, pv) false (dropP l pn)) := hide hR
  clear hR hlen h
  generalize dropP l pn = d at *
  go_enter Tryz.func57, Tryz.ntmps57
  go_upto_region 2 with (first
    | (go_at_call 82
       refine (HD.out _ (alloc_b w (.cells #[.string pn, .int .i64 pv] 63))).mono ?_
       rintro e w1 ⟨Ad, nd, cd, rfl, hNd, hb1⟩))
  have hbk : Below w.heap.size w w1 := (alloc_b w (.cells #[.string pn, .int .i64 pv] 63)).trans (hb1.mono (by simp))
  have hblk : Blk w1 w.heap.size 63 #[.string pn, .int .i64 pv] := (Blk.new w 63 #[.string pn, .int .i64 pv]).below hb1 (by simp)
  have hdn : d.length = nd := hNd.1.symm
  have hdn2 : nd ≤ 1000000 := by omega
  have Hdn := hide hdn
  have hRd := hNd.2.2.2
  have hg0 := hblk.lt
  clear hdn hdl hNd HD
  generalize w.heap.size = g0 at hblk hg0 ⊢
  go_wp2
  go_loopw [5, 6, 7] (fun u v x wr => ∃ (i : Nat) (b : Bool) (Ao : Option Addr) (no co : Nat) (out : List Pk), i ≤ nd ∧ u = .slice Ao no co ∧ v = .bool b ∧ x = .int .i64 (i : Int) ∧ (no ≤ i ∨ (b = true ∧ no ≤ i + 1)) ∧
    NewP wr w1.heap.size Ao no co out ∧ Hid (R = out ++ insP (pn, pv) b (d.drop i)) ∧ Below w1.heap.size w1 wr) (fun _ _ x _ => nd - (RowKit.intOf x).toNat)
  case atStart => exact ⟨0, false, none, 0, 0, [], by omega, rfl, rfl, rfl, .inl (Nat.le_refl _), NewP.nil_ _ _, hide (by rw [HR.out]; rfl), Below.refl _ _⟩
  case round =>
    obtain ⟨i, b, Ao, no, co, out, hi, rfl, rfl, rfl, hno, hN, hf, hb⟩ := hrel
    have hbs := hb.size
    have hown := hN.2.2.1
    have k0 : wr.cell? ⟨g0, 0, none⟩ = some (.string pn) := ((hblk.below hb hg0).cell 0).trans rfl
    have k1 : wr.cell? ⟨g0, 1, none⟩ = some (.int .i64 pv) := ((hblk.below hb hg0).cell 1).trans rfl
    have hno2 : no ≤ 1000001 := by rcases hno with h | h <;> omega
    by_cases hlt : i < nd
    · obtain ⟨ad, q, rfl, hbl, hx, d1, d2⟩ := PkIn.at_ hRd hlt
      have r1 := hide (ins_past (pn, pv) hx)
      have r2 := hide (ins_at (pn, pv) hx)
      have r3 := hide (ins_ahead (pn, pv) hx)
      obtain ⟨x, v⟩ := q
      simp only [] at d1 d2 r1 r2 r3
      have c1 := (hb.cell (p := ad.add (i * 2)) (by rw [block_of_add]; exact hbl)).trans d1
      have c2 := (hb.cell (p := ⟨(ad.add (i * 2)).block, (ad.add (i * 2)).off + 1, none⟩) (by simp only [block_of_add]; exact hbl)).trans d2
      have j1 : (0 : Int) ≤ (i : Int) := by omega
      have j2 : (i : Int) < (nd : Int) := by omega
      clear hx
      cases b with
      | true =>
        have e := hide (hf.out.trans (congrArg (out ++ ·) r1.out))
        clear r1 r2 r3 hf
        go_upto_region 7 with fail
        go_quiet (fail)
        go_wp2_with (at_builtin
                     refine wpList_append_any _ rfl (.tmp 34) (.tmp 39) _ rfl w1.heap.size 63 i0 _ 2 24 Tryz.underlying27 hi0 hz0 hz1 hz2 rfl (by omega) _ _ _ rfl
                       (own_below hown ?_) _ _ 1 _ _ rfl (reads_pick _ x v _ (by simp)) (pks_one _) (by unfold maxLen; omega) (by omega) (by simp; omega) ?_
                     · exact (below_drewN (Below.refl _ _) _).alloc (Nat.le_refl _) _
                     intro v2 w2 hown2 hg2 hat2
                     have hb2 : Below w1.heap.size w1 w2 := ((below_drewN hb _).alloc (by simp; omega) _).grown hg2 (by simp; omega) (fun k hk => (hown.lt k hk).1)
                     rw [← pks_append] at hown2
                     obtain ⟨A2, c2', rfl, hN2⟩ := newP_of_own hown2)
        go_roundw
        case rel => exact ⟨i + 1, true, A2, no + 1, c2', _, by omega, rfl, rfl, by go_num, .inr ⟨rfl, by rcases hno with h | h <;> omega⟩, hN2, hide (by rw [e.out]; simp), hb2⟩
        case measure => simp [RowKit.intOf]; omega
      | false =>
        have hno3 : no ≤ i := by
          rcases hno with h | h
          · exact h
          · cases h.1
        clear hno
        cases g : nlt pn x with
        | true =>
          have f1 : Op.bytesLess pn.toList x.toList = true := g
          have e := hide (hf.out.trans (congrArg (out ++ ·) (r2.out g)))
          clear r1 r2 r3 hf g
          go_upto_region 7 with fail
          go_quiet (fail)
          go_wp2_with (first
            | (at_builtin
               have hdone := hb2
               refine wpList_append_any _ rfl (.tmp 34) (.tmp 39) _ rfl w1.heap.size 63 i0 _ 2 24 Tryz.underlying27 hi0 hz0 hz1 hz2 rfl (by omega) _ _ _ rfl
                 (own_below hown2 ?_) _ _ 1 _ _ rfl (reads_pick _ x v _ (by simp)) (pks_one _) (by unfold maxLen; omega) (by omega) (by simp; omega) ?_
               · exact (Below.refl _ _).alloc (Nat.le_refl _) _
               intro v3 w3 hown3 hg3 hat3
               have hb3 : Below w1.heap.size w1 w3 := (hb2.alloc hb2.size _).grown hg3 (by simp; omega) (fun k hk => (hown2.lt k hk).1)
               rw [← pks_append] at hown3
               obtain ⟨A3, c3', rfl, hN3⟩ := newP_of_own hown3)
            | (at_builtin
               refine wpList_append_any _ rfl (.tmp 30) (.tmp 32) _ rfl w1.heap.size 63 i0 _ 2 24 Tryz.underlying27 hi0 hz0 hz1 hz2 rfl (by omega) _ _ _ rfl
                 (own_below hown ?_) _ _ 1 _ _ rfl (reads_pick _ pn pv _ (by simp)) (pks_one _) (by unfold maxLen; omega) (by omega) (by simp; omega) ?_
               · exact (below_drewN (Below.refl _ _) _).alloc (Nat.le_refl _) _
               intro v2 w2 hown2 hg2 hat2
               have hb2 : Below w1.heap.size w1 w2 := ((below_drewN hb _).alloc (by simp; omega) _).grown hg2 (by simp; omega) (fun k hk => (hown.lt k hk).1)
               rw [← pks_append] at hown2
               obtain ⟨A2, c2', rfl, hN2⟩ := newP_of_own hown2
               have hs2 := hb2.size
               have c3 := (hb2.cell (p := ad.add (i * 2)) (by rw [block_of_add]; exact hbl)).trans d1
               have c4 := (hb2.cell (p := ⟨(ad.add (i * 2)).block, (ad.add (i * 2)).off + 1, none⟩) (by simp only [block_of_add]; exact hbl)).trans d2))
          go_roundw
          case rel => exact ⟨i + 1, true, A3, no + 1 + 1, c3', _, by omega, rfl, rfl, by go_num, .inr ⟨rfl, by omega⟩, hN3, hide (by rw [e.out]; simp), hb3⟩
          case measure => simp [RowKit.intOf]; omega
        | false =>
          have f1 : Op.bytesLess pn.toList x.toList = false := g
          have e := hide (hf.out.trans (congrArg (out ++ ·) (r3.out g)))
          clear r1 r2 r3 hf g
          go_upto_region 7 with fail
          go_quiet (fail)
          go_wp2_with (at_builtin
                       refine wpList_append_any _ rfl (.tmp 34) (.tmp 39) _ rfl w1.heap.size 63 i0 _ 2 24 Tryz.underlying27 hi0 hz0 hz1 hz2 rfl (by omega) _ _ _ rfl
                         (own_below hown ?_) _ _ 1 _ _ rfl (reads_pick _ x v _ (by simp)) (pks_one _) (by unfold maxLen; omega) (by omega) (by simp; omega) ?_
                       · exact (below_drewN (Below.refl _ _) _).alloc (Nat.le_refl _) _
                       intro v2 w2 hown2 hg2 hat2
                       have hb2 : Below w1.heap.size w1 w2 := ((below_drewN hb _).alloc (by simp; omega) _).grown hg2 (by simp; omega) (fun k hk => (hown.lt k hk).1)
                       rw [← pks_append] at hown2
                       obtain ⟨A2, c2', rfl, hN2⟩ := newP_of_own hown2)
          go_roundw
          case rel => exact ⟨i + 1, false, A2, no + 1, c2', _, by omega, rfl, rfl, by go_num, .inl (by omega), hN2, hide (by rw [e.out]; simp), hb2⟩
          case measure => simp [RowKit.intOf]; omega
    · have hz := hide (ins_end (pn, pv) b (d := d) (i := i) (by have := Hdn.out; omega))
      have e := hide (hf.out.trans (congrArg (out ++ ·) hz.out))
      have hi2 : i = nd := by omega
      subst hi2
      clear hf hz
      cases b with
      | true =>
        have e2 : Hid (R = out) := hide (by rw [e.out]; simp)
        clear e
        go_wp2
        go_ret
        refine ⟨Ao, no, co, rfl, ?_, hbk.trans (hb.mono hbk.size)⟩
        rw [e2.out]
        exact hN.less (Nat.zero_le _)
      | false =>
        have e2 : Hid (R = out ++ [(pn, pv)]) := hide (by rw [e.out]; simp)
        clear e
        go_wp2_with (at_builtin
                     refine wpList_append_any _ rfl (.tmp 43) (.tmp 45) _ rfl w1.heap.size 63 i0 _ 2 24 Tryz.underlying27 hi0 hz0 hz1 hz2 rfl (by omega) _ _ _ rfl
                       (own_below hown ?_) _ _ 1 _ _ rfl (reads_pick _ pn pv _ (by simp)) (pks_one _) (by unfold maxLen; omega) (by omega) (by simp; omega) ?_
                     · exact (Below.refl _ _).alloc (Nat.le_refl _) _
                     intro v2 w2 hown2 hg2 hat2
                     have hb2 : Below w1.heap.size w1 w2 := (hb.alloc hb.size _).grown hg2 (by simp; omega) (fun k hk => (hown.lt k hk).1)
                     rw [← pks_append] at hown2
                     obtain ⟨A2, c2', rfl, hN2⟩ := newP_of_own hown2)
        go_ret
        refine ⟨A2, _, c2', rfl, ?_, hbk.trans (hb2.mono hbk.size)⟩
        rw [e2.out]
        exact hN2.less (Nat.zero_le _)
end Go.Proofs.YtmoeilkaadnnoaaGreat.Pick
/-
  Where a name's pick stands among picks whose names rise, or would stand; what is got, put and dropped by that place. No program.
-/
namespace Go.Proofs.YtmoeilkaadnnoaaGreat.Pick
open Go.RowKit Go.Lib Go.Proofs.YtmoeilkaadnnoaaGreat.Span Go.Proofs.YtmoeilkaadnnoaaGreat.Need
set_option linter.unusedVariables false
/-- How many picks stand ahead of a name. -/
def fidx : List Pk → ByteArray → Nat
  | [], _ => 0
  | q :: t, n => if nlt q.1 n = true then fidx t n + 1 else 0
theorem fidx_le : ∀ (l : List Pk) (n : ByteArray), fidx l n ≤ l.length
  | [], _ => Nat.le_refl _
  | q :: t, n => by
    unfold fidx
    have := fidx_le t n
    split
    · simpa using this
    · exact Nat.zero_le _
theorem fidx_lt : ∀ {l : List Pk}, RisesP l → ∀ (n : ByteArray) (i : Nat) (q : Pk), l[i]? = some q → (nlt q.1 n = true ↔ i < fidx l n)
  | [], _, n, i, q, h => by simp at h
  | x :: t, hr, n, 0, q, h => by
    simp at h
    subst h
    unfold fidx
    split
    · rename_i g; simp [g]
    · rename_i g; simp [g]
  | x :: t, hr, n, i + 1, q, h => by
    rw [List.getElem?_cons_succ] at h
    obtain ⟨h1, h2⟩ := List.pairwise_cons.1 hr
    have ih := fidx_lt h2 n i q h
    unfold fidx
    split
    · rw [ih]; omega
    · rename_i g
      constructor
      · intro g2
        exact absurd (nlt_trans (h1 q (List.mem_of_getElem? h)) g2) g
      · intro g2; omega
/-- Those behind a name that is not less. -/
theorem above {x : Pk} {t : List Pk} {n : ByteArray} (h : ∀ q ∈ t, nlt x.1 q.1 = true) (g : ¬ nlt x.1 n = true) : ∀ q ∈ t, nlt n q.1 = true := fun q hq => by
  rcases nlt_cases x.1 n with g1 | g1 | g1
  · exact absurd g1 g
  · rw [← g1]; exact h q hq
  · exact nlt_trans g1 (h q hq)
theorem above_ne {t : List Pk} {n : ByteArray} (h : ∀ q ∈ t, nlt n q.1 = true) : ∀ q ∈ t, q.1 ≠ n := fun q hq e => by
  have := h q hq
  rw [e, nlt_self] at this
  cases this
/-- The pick of a name. -/
theorem fidx_get : ∀ {l : List Pk}, RisesP l → ∀ (n : ByteArray), getP l n = (l[fidx l n]?).bind fun q => if q.1 = n then some q.2 else none
  | [], _, n => rfl
  | x :: t, hr, n => by
    obtain ⟨h1, h2⟩ := List.pairwise_cons.1 hr
    have ih := fidx_get h2 n
    unfold fidx
    split
    · rename_i g
      rw [getP, if_neg (nlt_ne g), List.getElem?_cons_succ]
      exact ih
    · rename_i g
      rw [getP]
      show _ = (some x).bind _
      rw [Option.bind_some]
      by_cases e : x.1 = n
      · rw [if_pos e, if_pos e]
      · rw [if_neg e, if_neg e, getP_none (above_ne (above h1 g))]
/-- What stands behind: from the next one on, if the name has a pick. -/
def nidx (l : List Pk) (n : ByteArray) : Nat := if (getP l n).isSome = true then fidx l n + 1 else fidx l n
theorem drop_fidx : ∀ {l : List Pk}, RisesP l → ∀ (n : ByteArray), dropP l n = l.take (fidx l n) ++ l.drop (nidx l n)
  | [], _, n => by simp [dropP, fidx]
  | x :: t, hr, n => by
    obtain ⟨h1, h2⟩ := List.pairwise_cons.1 hr
    have ih := drop_fidx h2 n
    unfold nidx at ih ⊢
    rw [getP]
    unfold fidx
    by_cases g : nlt x.1 n = true
    · rw [if_pos g, if_neg (nlt_ne g)]
      have e : dropP (x :: t) n = x :: dropP t n := by unfold dropP; simp [nlt_ne g]
      rw [e, ih, List.take_succ_cons]
      split <;> simp
    · rw [if_neg g]
      by_cases e : x.1 = n
      · rw [if_pos e]
        have e2 : dropP (x :: t) n = dropP t n := by unfold dropP; simp [e]
        rw [e2, dropP_none (above_ne (above h1 g))]
        simp
      · rw [if_neg e, getP_none (above_ne (above h1 g))]
        have e2 : dropP (x :: t) n = x :: dropP t n := by unfold dropP; simp [e]
        rw [e2, dropP_none (above_ne (above h1 g))]
        simp
theorem ins_first {p : Pk} {t : List Pk} (h : ∀ q ∈ t, nlt p.1 q.1 = true) : insP p false t = p :: t := by
  cases t with
  | nil => rfl
  | cons y u => exact insP_lt (h y (by simp))
theorem put_fidx : ∀ {l : List Pk}, RisesP l → ∀ (p : Pk), putP l p = l.take (fidx l p.1) ++ ([p] ++ l.drop (nidx l p.1))
  | [], _, p => by simp [putP, dropP, fidx, insP]
  | x :: t, hr, p => by
    obtain ⟨h1, h2⟩ := List.pairwise_cons.1 hr
    have ih := put_fidx h2 p
    unfold putP nidx at ih ⊢
    rw [getP]
    unfold fidx
    by_cases g : nlt x.1 p.1 = true
    · rw [if_pos g, if_neg (nlt_ne g)]
      have e : dropP (x :: t) p.1 = x :: dropP t p.1 := by unfold dropP; simp [nlt_ne g]
      rw [e, insP_ge (nlt_asymm g), ih, List.take_succ_cons]
      split <;> simp
    · rw [if_neg g]
      have ha := above h1 g
      by_cases e : x.1 = p.1
      · rw [if_pos e]
        have e2 : dropP (x :: t) p.1 = dropP t p.1 := by unfold dropP; simp [e]
        rw [e2, dropP_none (above_ne ha), ins_first ha]
        simp
      · rw [if_neg e, getP_none (above_ne ha)]
        have e2 : dropP (x :: t) p.1 = x :: dropP t p.1 := by unfold dropP; simp [e]
        have e3 : nlt p.1 x.1 = true := by
          rcases nlt_cases x.1 p.1 with f | f | f
          · exact absurd f g
          · exact absurd f e
          · exact f
        rw [e2, dropP_none (above_ne ha), insP_lt e3]
        simp
end Go.Proofs.YtmoeilkaadnnoaaGreat.Pick
