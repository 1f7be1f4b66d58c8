/-
  Some texts of this claim, one behind the other: PickMath, PickCells, PickSame, PickRef, PickFidx. What each proves, and its condition, stands at its head.
-/
import Derived.Test.YtmoeilkaadnnoaaGreatY15
import Derived.Test.YtmoeilkaadnnoaaGreatY4
import Derived.Test.YtmoeilkaadnnoaaGreatY1
import Derived.Test.YtmoeilkaadnnoaaGreatY13
import Derived.Test.YtmoeilkaadnnoaaGreatChecked
import Derived.Laws.Cover1
/-
  Plain mathematics of picks: which may be; what is got, put and dropped. No program.
-/
namespace Go.Proofs.YtmoeilkaadnnoaaGreat.Pick
open Go.RowKit Go.Lib Go.Proofs.YtmoeilkaadnnoaaGreat.Span Go.Proofs.YtmoeilkaadnnoaaGreat.Need
open Go.Proofs.YtmoeilkaadnnoaaGreat.Label (runes fitL runes_end)
set_option linter.unusedVariables false
abbrev Pk := ByteArray × Int
theorem nlt_cases (a b : ByteArray) : nlt a b = true ∨ a = b ∨ nlt b a = true := by
  cases h1 : nlt a b
  · cases h2 : nlt b a
    · exact .inr (.inl (nlt_tri h1 h2))
    · exact .inr (.inr rfl)
  · exact .inl rfl
theorem triP (a b : ByteArray) : (Op.bytesLess a.toList b.toList = true ∧ nlt b a = false ∧ (a.toList == b.toList) = false) ∨ (Op.bytesLess a.toList b.toList = false ∧ nlt b a = false ∧ (a.toList == b.toList) = true) ∨ (Op.bytesLess a.toList b.toList = false ∧ nlt b a = true ∧ (a.toList == b.toList) = false) := by
  rw [eq_names]
  show (nlt a b = true ∧ _) ∨ (nlt a b = false ∧ _) ∨ (nlt a b = false ∧ _)
  rcases nlt_cases a b with h | h | h
  · exact .inl ⟨h, nlt_asymm h, decide_eq_false (nlt_ne h)⟩
  · exact .inr (.inl ⟨by rw [h]; exact nlt_self b, by rw [h]; exact nlt_self b, decide_eq_true h⟩)
  · exact .inr (.inr ⟨nlt_asymm h, h, decide_eq_false fun e => nlt_ne h e.symm⟩)
def RisesP (l : List Pk) : Prop := l.Pairwise fun x y => nlt x.1 y.1 = true
def getP : List Pk → ByteArray → Option Int
  | [], _ => none
  | q :: t, n => if q.1 = n then some q.2 else getP t n
theorem getP_none {l : List Pk} {n : ByteArray} (h : ∀ q ∈ l, q.1 ≠ n) : getP l n = none := by
  induction l with
  | nil => rfl
  | cons x t ih => rw [getP, if_neg (h x (by simp))]; exact ih fun q hq => h q (by simp [hq])
theorem getP_in {l : List Pk} {n : ByteArray} {v : Int} (h : getP l n = some v) : (n, v) ∈ l := by
  induction l with
  | nil => cases h
  | cons x t ih =>
    rw [getP] at h
    split at h
    · rename_i e
      injection h with h
      subst e h
      simp
    · exact List.mem_cons_of_mem _ (ih h)
theorem getP_mem {l : List Pk} (hr : RisesP l) {q : Pk} (hq : q ∈ l) : getP l q.1 = some q.2 := by
  induction l with
  | nil => cases hq
  | cons x t ih =>
    obtain ⟨h1, h2⟩ := List.pairwise_cons.1 hr
    rcases List.mem_cons.1 hq with rfl | hq
    · rw [getP, if_pos rfl]
    · rw [getP, if_neg (nlt_ne (h1 q hq)), ih h2 hq]
theorem getP_drop {l : List Pk} {n : ByteArray} {i : Nat} {q : Pk} (h : l[i]? = some q) : getP (l.drop i) n = if q.1 = n then some q.2 else getP (l.drop (i + 1)) n := by
  obtain ⟨hi, e⟩ := List.getElem?_eq_some_iff.1 h
  rw [List.drop_eq_getElem_cons hi, e]
  rfl
def insP (n : Pk) : Bool → List Pk → List Pk
  | i, [] => if i = true then [] else [n]
  | i, x :: t => if i = false ∧ nlt n.1 x.1 = true then n :: x :: insP n true t else x :: insP n i t
theorem insP_true (n : Pk) (l : List Pk) : insP n true l = l := by
  induction l with
  | nil => rfl
  | cons x t ih => rw [insP, if_neg (by simp), ih]
theorem insP_lt {n x : Pk} {t : List Pk} (h : nlt n.1 x.1 = true) : insP n false (x :: t) = n :: x :: t := by rw [insP, if_pos ⟨rfl, h⟩, insP_true]
theorem insP_ge {n x : Pk} {t : List Pk} (h : nlt n.1 x.1 = false) : insP n false (x :: t) = x :: insP n false t := by rw [insP, if_neg (by rw [h]; simp)]
theorem insP_mem (n : Pk) (l : List Pk) {z : Pk} : z ∈ insP n false l ↔ z = n ∨ z ∈ l := by
  induction l with
  | nil => simp [insP]
  | cons y t ih =>
    cases h : nlt n.1 y.1 with
    | true => rw [insP_lt h]; simp
    | false =>
      rw [insP_ge h, List.mem_cons, List.mem_cons, ih]
      constructor
      · rintro (h | h | h)
        · exact .inr (.inl h)
        · exact .inl h
        · exact .inr (.inr h)
      · rintro (h | h | h)
        · exact .inr (.inl h)
        · exact .inl h
        · exact .inr (.inr h)
theorem insP_rises {n : Pk} {l : List Pk} (hl : RisesP l) (hn : ∀ q ∈ l, q.1 ≠ n.1) : RisesP (insP n false l) := by
  induction l with
  | nil => exact List.pairwise_singleton _ _
  | cons y t ih =>
    obtain ⟨h1, h2⟩ := List.pairwise_cons.1 hl
    cases h : nlt n.1 y.1 with
    | true =>
      rw [insP_lt h]
      refine List.pairwise_cons.2 ⟨fun z hz => ?_, hl⟩
      rcases List.mem_cons.1 hz with rfl | hz
      · exact h
      · exact nlt_trans h (h1 z hz)
    | false =>
      rw [insP_ge h]
      refine List.pairwise_cons.2 ⟨fun z hz => ?_, ih h2 fun q hq => hn q (by simp [hq])⟩
      rcases (insP_mem n t).1 hz with rfl | hz
      · rcases nlt_cases y.1 z.1 with g | g | g
        · exact g
        · exact absurd g (hn y (by simp))
        · rw [g] at h; cases h
      · exact h1 z hz
theorem insP_at {n : Pk} {l : List Pk} (hn : ∀ q ∈ l, q.1 ≠ n.1) (nm : ByteArray) : getP (insP n false l) nm = if n.1 = nm then some n.2 else getP l nm := by
  induction l with
  | nil => rfl
  | cons y t ih =>
    cases h : nlt n.1 y.1 with
    | true => rw [insP_lt h, getP]
    | false =>
      rw [insP_ge h, getP, getP, ih fun q hq => hn q (by simp [hq])]
      by_cases e : y.1 = nm
      · rw [if_pos e, if_pos e, if_neg (fun g => hn y (by simp) (by rw [e, g]))]
      · rw [if_neg e, if_neg e]
def verOk (v : Int) : Bool := decide (0 ≤ v ∧ v < 1000000000)
theorem verOk_iff {v : Int} : verOk v = true ↔ 0 ≤ v ∧ v < 1000000000 := by unfold verOk; simp
def okQ : ByteArray → List Pk → Bool
  | _, [] => true
  | a, q :: t => (nlt a q.1 && (fitL (runes q.1 0) && verOk q.2)) && okQ q.1 t
def okP (l : List Pk) : Bool := okQ ByteArray.empty l
theorem okQ_drop {l : List Pk} {a : ByteArray} {i : Nat} {q : Pk} (h : l[i]? = some q) : okQ a (l.drop i) = ((nlt a q.1 && (fitL (runes q.1 0) && verOk q.2)) && okQ q.1 (l.drop (i + 1))) := by
  obtain ⟨hi, e⟩ := List.getElem?_eq_some_iff.1 h
  rw [List.drop_eq_getElem_cons hi, e]
  rfl
theorem okQ_all {l : List Pk} : ∀ {a : ByteArray}, okQ a l = true → ∀ q ∈ l, nlt a q.1 = true ∧ fitL (runes q.1 0) = true ∧ verOk q.2 = true := by
  induction l with
  | nil => intro a _ q hq; cases hq
  | cons x t ih =>
    intro a h q hq
    simp only [okQ, Bool.and_eq_true] at h
    obtain ⟨⟨h1, h2, h3⟩, h5⟩ := h
    rcases List.mem_cons.1 hq with rfl | hq
    · exact ⟨h1, h2, h3⟩
    · obtain ⟨g1, g2⟩ := ih h5 q hq
      exact ⟨nlt_trans h1 g1, g2⟩
theorem okQ_rises {l : List Pk} : ∀ {a : ByteArray}, okQ a l = true → RisesP l := by
  induction l with
  | nil => intro a _; exact List.Pairwise.nil
  | cons x t ih =>
    intro a h
    simp only [okQ, Bool.and_eq_true] at h
    exact List.pairwise_cons.2 ⟨fun q hq => (okQ_all h.2 q hq).1, ih h.2⟩
theorem okQ_of {l : List Pk} : ∀ {a : ByteArray}, RisesP l → (∀ q ∈ l, nlt a q.1 = true) → (∀ q ∈ l, fitL (runes q.1 0) = true ∧ verOk q.2 = true) → okQ a l = true := by
  induction l with
  | nil => intro a _ _ _; rfl
  | cons x t ih =>
    intro a hr ha hf
    obtain ⟨h1, h2⟩ := List.pairwise_cons.1 hr
    simp only [okQ, Bool.and_eq_true]
    exact ⟨⟨ha x (by simp), hf x (by simp)⟩, ih h2 h1 fun q hq => hf q (by simp [hq])⟩
theorem fit_some {x : ByteArray} (h : fitL (runes x 0) = true) : x ≠ ByteArray.empty := by
  rintro rfl
  rw [runes_end _ _ (by decide)] at h
  cases h
theorem empty_lt {x : ByteArray} (h : x ≠ ByteArray.empty) : nlt ByteArray.empty x = true := by
  rcases nlt_cases ByteArray.empty x with g | g | g
  · exact g
  · exact absurd g.symm h
  · rw [nlt_iff] at g
    rw [Lib.toList_data ByteArray.empty] at g
    exact absurd g (List.not_lt_nil _)
theorem okP_iff {l : List Pk} : okP l = true ↔ RisesP l ∧ ∀ q ∈ l, fitL (runes q.1 0) = true ∧ verOk q.2 = true :=
  ⟨fun h => ⟨okQ_rises h, fun q hq => (okQ_all h q hq).2⟩, fun h => okQ_of h.1 (fun q hq => empty_lt (fit_some (h.2 q hq).1)) h.2⟩
def dropP (l : List Pk) (n : ByteArray) : List Pk := l.filter fun q => decide (q.1 ≠ n)
theorem dropP_mem {l : List Pk} {n : ByteArray} {q : Pk} : q ∈ dropP l n ↔ q ∈ l ∧ q.1 ≠ n := by unfold dropP; simp
theorem dropP_rises {l : List Pk} (h : RisesP l) (n : ByteArray) : RisesP (dropP l n) := List.Pairwise.filter _ h
theorem dropP_ok {l : List Pk} (h : okP l = true) (n : ByteArray) : okP (dropP l n) = true :=
  okP_iff.2 ⟨dropP_rises (okP_iff.1 h).1 n, fun q hq => (okP_iff.1 h).2 q (dropP_mem.1 hq).1⟩
theorem dropP_none {l : List Pk} {n : ByteArray} (h : ∀ q ∈ l, q.1 ≠ n) : dropP l n = l := by
  unfold dropP
  rw [List.filter_eq_self]
  intro q hq
  simp [h q hq]
theorem dropP_get {l : List Pk} (n x : ByteArray) : getP (dropP l n) x = if x = n then none else getP l x := by
  induction l with
  | nil => simp [dropP, getP]
  | cons q t ih =>
    by_cases e : q.1 = n
    · have : dropP (q :: t) n = dropP t n := by unfold dropP; simp [e]
      rw [this, ih]
      by_cases g : x = n
      · rw [if_pos g, if_pos g]
      · rw [if_neg g, if_neg g, getP, if_neg (fun f => g (by rw [← f, e]))]
    · have : dropP (q :: t) n = q :: dropP t n := by unfold dropP; simp [e]
      rw [this, getP, ih, getP]
      by_cases g : q.1 = x
      · rw [if_pos g, if_neg (fun f => e (by rw [g, f])), if_pos g]
      · rw [if_neg g, if_neg g]
def putP (l : List Pk) (p : Pk) : List Pk := insP p false (dropP l p.1)
theorem drop_ne {l : List Pk} {n : ByteArray} : ∀ q ∈ dropP l n, q.1 ≠ n := fun q hq => (dropP_mem.1 hq).2
theorem putP_ok {l : List Pk} {p : Pk} (h : okP l = true) (hf : fitL (runes p.1 0) = true) (hv : verOk p.2 = true) : okP (putP l p) = true := by
  obtain ⟨h1, h2⟩ := okP_iff.1 (dropP_ok h p.1)
  refine okP_iff.2 ⟨insP_rises h1 drop_ne, fun q hq => ?_⟩
  rcases (insP_mem p _).1 hq with rfl | hq
  · exact ⟨hf, hv⟩
  · exact h2 q hq
theorem putP_get {l : List Pk} (p : Pk) (x : ByteArray) : getP (putP l p) x = if p.1 = x then some p.2 else getP l x := by
  unfold putP
  rw [insP_at drop_ne, dropP_get]
  by_cases e : p.1 = x
  · rw [if_pos e, if_pos e]
  · rw [if_neg e, if_neg e, if_neg (fun g => e g.symm)]
theorem same_get : ∀ {l m : List Pk}, RisesP l → RisesP m → (∀ x, getP l x = getP m x) → l = m
  | [], [], _, _, _ => rfl
  | [], y :: m, _, _, h => by
    have := h y.1
    rw [getP, getP, if_pos rfl] at this
    cases this
  | x :: l, [], _, _, h => by
    have := h x.1
    rw [getP, getP, if_pos rfl] at this
    cases this
  | x :: l, y :: m, hl, hm, h => by
    obtain ⟨a1, a2⟩ := List.pairwise_cons.1 hl
    obtain ⟨b1, b2⟩ := List.pairwise_cons.1 hm
    have hxy : x.1 = y.1 := by
      rcases nlt_cases x.1 y.1 with g | g | g
      · have e := h x.1
        rw [getP, if_pos rfl, getP_none] at e
        · cases e
        · intro q hq f
          rcases List.mem_cons.1 hq with rfl | hq
          · rw [f, nlt_self] at g; cases g
          · have := nlt_trans g (b1 q hq)
            rw [f, nlt_self] at this; cases this
      · exact g
      · have e := h y.1
        rw [getP_none, getP, if_pos rfl] at e
        · cases e
        · intro q hq f
          rcases List.mem_cons.1 hq with rfl | hq
          · rw [f, nlt_self] at g; cases g
          · have := nlt_trans g (a1 q hq)
            rw [f, nlt_self] at this; cases this
    have hv : x.2 = y.2 := by
      have e := h x.1
      rw [getP, if_pos rfl, getP, if_pos hxy.symm] at e
      injection e
    have e1 : x = y := Prod.ext hxy hv
    subst e1
    congr 1
    refine same_get a2 b2 fun z => ?_
    have e := h z
    rw [getP, getP] at e
    by_cases g : x.1 = z
    · rw [getP_none (fun q hq f => by have := a1 q hq; rw [f, ← g, nlt_self] at this; cases this), getP_none (fun q hq f => by have := b1 q hq; rw [f, ← g, nlt_self] at this; cases this)]
    · rwa [if_neg g, if_neg g] at e
end Go.Proofs.YtmoeilkaadnnoaaGreat.Pick
/-
  Slices of picks in memory: what came in with a call, and new ones of the call's own. No condition.
-/
namespace Go.Proofs.YtmoeilkaadnnoaaGreat.Pick
open Go Go.RowKit Go.Lib
set_option linter.unusedVariables false
theorem alloc_b (w : World) (o : Obj) : Below w.heap.size w (w.alloc o) := (Below.refl _ _).alloc (Nat.le_refl _) o
def pks : List Pk → List Value
  | [] => []
  | s :: t => .string s.1 :: .int .i64 s.2 :: pks t
theorem pks_length (l : List Pk) : (pks l).length = l.length * 2 := by
  induction l with
  | nil => rfl
  | cons s t ih => simp [pks, ih]; omega
theorem pks_append (l m : List Pk) : pks (l ++ m) = pks l ++ pks m := by
  induction l with
  | nil => rfl
  | cons s t ih => simp [pks, ih]
theorem pks_one (l : List Pk) : ∀ u ∈ pks l, u.oneCell' = true := by
  induction l with
  | nil => intro u hu; cases hu
  | cons s t ih =>
    intro u hu
    simp only [pks, List.mem_cons] at hu
    rcases hu with rfl | rfl | hu
    · rfl
    · rfl
    · exact ih u hu
theorem pks_get (l : List Pk) : ∀ (i : Nat) (s : Pk), l[i]? = some s → (pks l)[i * 2]? = some (.string s.1) ∧ (pks l)[i * 2 + 1]? = some (.int .i64 s.2) := by
  induction l with
  | nil => intro i s h; simp at h
  | cons x t ih =>
    intro i s h
    cases i with
    | zero => simp at h; subst h; exact ⟨rfl, rfl⟩
    | succ i =>
      rw [List.getElem?_cons_succ] at h
      have := ih i s h
      rw [show (i + 1) * 2 = i * 2 + 1 + 1 by omega, show i * 2 + 1 + 1 + 1 = (i * 2 + 1) + 1 + 1 by omega]
      exact this
theorem pks_drop (l : List Pk) : ∀ k : Nat, (pks l).drop (k * 2) = pks (l.drop k) := by
  induction l with
  | nil => intro k; simp [pks]
  | cons x t ih =>
    intro k
    cases k with
    | zero => rfl
    | succ k =>
      rw [show (k + 1) * 2 = k * 2 + 1 + 1 by omega]
      simp only [pks, List.drop_succ_cons, ih]
theorem pks_take (l : List Pk) : ∀ k : Nat, (pks l).take (k * 2) = pks (l.take k) := by
  induction l with
  | nil => intro k; simp [pks]
  | cons x t ih =>
    intro k
    cases k with
    | zero => simp [pks]
    | succ k =>
      rw [show (k + 1) * 2 = k * 2 + 1 + 1 by omega]
      simp only [pks, List.take_succ_cons, ih]
theorem add_field (ad : Addr) (k : Nat) : ad.add (k + 1) = ⟨(ad.add k).block, (ad.add k).off + 1, none⟩ := by
  unfold Addr.add
  by_cases h : k = 0 <;> simp [h, Nat.add_assoc]
def PkIn (w : World) (B : Nat) (A : Option Addr) (n : Nat) (l : List Pk) : Prop := Reads w B 2 A n (pks l)
section
variable {w w' : World} {B B' n k : Nat} {A : Option Addr} {l : List Pk}
theorem PkIn.len (h : PkIn w B A n l) : l.length = n := by
  have := h.1
  rw [pks_length] at this
  omega
theorem PkIn.at_ (h : PkIn w B A n l) (hk : k < n) :
    ∃ ad s, A = some ad ∧ ad.block < B ∧ l[k]? = some s ∧ w.cell? (ad.add (k * 2)) = some (.string s.1) ∧ w.cell? ⟨(ad.add (k * 2)).block, (ad.add (k * 2)).off + 1, none⟩ = some (.int .i64 s.2) := by
  have hl := h.len
  obtain ⟨ad, hA, hb, hc⟩ := h.2 (by omega)
  obtain ⟨g1, g2⟩ := pks_get l k (l[k]'(by omega)) (by simp)
  refine ⟨ad, l[k]'(by omega), hA, hb, by simp, hc _ _ g1, ?_⟩
  rw [← add_field]
  exact hc _ _ g2
theorem PkIn.below (h : PkIn w B A n l) (hb : Below B w w') : PkIn w' B A n l := Reads.below h hb
theorem PkIn.more (h : PkIn w B A n l) (hb : B ≤ B') : PkIn w B' A n l := Reads.more h hb
theorem PkIn.nil (w : World) (B : Nat) (A : Option Addr) : PkIn w B A 0 [] := ⟨rfl, fun h => absurd h (by omega)⟩
theorem PkIn.cut (h : PkIn w B A n l) {c : Nat} (hk : k ≤ n) (hc : n ≤ c) : PkIn w B (if c = k then A else A.map (·.add (k * 2))) (n - k) (l.drop k) := by
  have := Reads.cut h hk hc
  rw [pks_drop] at this
  exact this
theorem PkIn.take (h : PkIn w B A n l) (hk : k ≤ n) : PkIn w B A k (l.take k) := by
  have hl := h.len
  refine ⟨by rw [pks_length, List.length_take]; omega, fun hn => ?_⟩
  obtain ⟨ad, hA, hb, hc⟩ := h.2 (by omega)
  refine ⟨ad, hA, hb, fun j u hu => ?_⟩
  rw [← pks_take, List.getElem?_take] at hu
  split at hu
  · exact hc j u hu
  · cases hu
end
def PkOn (w : World) (A : Option Addr) (n : Nat) (l : List Pk) : Prop := PkIn w w.heap.size A n l
theorem PkOn.on {w w' : World} {A : Option Addr} {n : Nat} {l : List Pk} (h : PkOn w A n l) (hb : Below w.heap.size w w') : PkOn w' A n l := (PkIn.below h hb).more hb.size
theorem PkOn.len {w : World} {A : Option Addr} {n : Nat} {l : List Pk} (h : PkOn w A n l) : l.length = n := PkIn.len h
theorem pkOn_of {w : World} {A : Option Addr} {n : Nat} {l : List Pk} (h : RowOf (liePair lieStr (lieInt .i64)) w w.heap.size A n l) : PkOn w A n l ∧ ∀ q ∈ l, q.1.size ≤ maxLen := by
  have key : ∀ i (q : Pk), l[i]? = some q → ∃ ad, A = some ad ∧ ad.block < w.heap.size ∧ w.cell? (ad.add (i * 2)) = some (.string q.1) ∧ w.cell? (ad.add (i * 2 + 1)) = some (.int .i64 q.2) ∧ q.1.size ≤ maxLen := by
    intro i q hq
    have hi : i < l.length := (List.getElem?_eq_some_iff.1 hq).1
    obtain ⟨ad, hA, hB, hc⟩ := h.2 (by have := h.1; omega)
    obtain ⟨cs, h1, c1, c2, e, ⟨e1, hs⟩, ⟨e2, _⟩⟩ := hc i q hq
    subst e e1 e2
    have x0 := h1 0 (by simp)
    have x1 := h1 1 (by simp)
    rw [add_of_add] at x0 x1
    exact ⟨ad, hA, hB, by simpa [liePair, lieInt, lieStr] using x0, by simpa [liePair, lieInt, lieStr] using x1, hs⟩
  refine ⟨⟨by rw [pks_length, h.1], fun hn => ?_⟩, fun q hq => ?_⟩
  · obtain ⟨ad, hA, hB, _⟩ := h.2 hn
    refine ⟨ad, hA, hB, fun j u hu => ?_⟩
    have hj : j < l.length * 2 := by
      have := (List.getElem?_eq_some_iff.1 hu).1
      rwa [pks_length] at this
    have hi : l[j / 2]? = some (l[j / 2]'(by omega)) := by simp
    obtain ⟨ad', hA', _, c1, c2, _⟩ := key _ _ hi
    rw [hA] at hA'
    injection hA' with hA'
    subst hA'
    obtain ⟨g1, g2⟩ := pks_get l _ _ hi
    rcases Nat.mod_two_eq_zero_or_one j with h0 | h0
    · have ej : j = j / 2 * 2 := by omega
      rw [ej, g1] at hu
      injection hu with hu
      subst hu
      rw [← ej] at c1
      exact c1
    · have ej : j = j / 2 * 2 + 1 := by omega
      rw [ej, g2] at hu
      injection hu with hu
      subst hu
      rw [← ej] at c2
      exact c2
  · obtain ⟨i, hi, rfl⟩ := List.getElem_of_mem hq
    obtain ⟨_, _, _, _, _, h5⟩ := key i l[i] (by simp)
    exact h5
def NewP (w : World) (B : Nat) (A : Option Addr) (n c : Nat) (l : List Pk) : Prop :=
  n = l.length ∧ n ≤ c ∧ w.ownsRow B 63 2 (.slice A n c) n (pks l) ∧ PkOn w A n l
theorem newP_of_own {w : World} {B n : Nat} {v : Value} {l : List Pk} (h : w.ownsRow B 63 2 v n (pks l)) : ∃ A c, v = .slice A n c ∧ NewP w B A n c l := by
  obtain ⟨A, c, rfl, hc, hm, hr⟩ := own_form h
  have hn : n = l.length := by have := h.1; rw [pks_length] at this; omega
  exact ⟨A, c, rfl, hn, hc, h, hr⟩
theorem NewP.nil_ (w : World) (B : Nat) : NewP w B none 0 0 [] := ⟨rfl, Nat.le_refl _, World.ownsRow_nil w B _ 2, PkIn.nil _ _ _⟩
theorem NewP.below {w w' : World} {B : Nat} {A : Option Addr} {n c : Nat} {l : List Pk} (h : NewP w B A n c l) (hb : Below w.heap.size w w') : NewP w' B A n c l :=
  ⟨h.1, h.2.1, own_below h.2.2.1 hb, h.2.2.2.on hb⟩
theorem NewP.less {w : World} {B B' : Nat} {A : Option Addr} {n c : Nat} {l : List Pk} (h : NewP w B A n c l) (hB : B' ≤ B) : NewP w B' A n c l :=
  ⟨h.1, h.2.1, own_less h.2.2.1 hB, h.2.2.2⟩
theorem reads_pick (w : World) (nm : ByteArray) (v : Int) (g : Nat) (hg : g = w.heap.size) : Reads (w.alloc (.cells #[.string nm, .int .i64 v] 63)) (g + 1) 2 (some ⟨g, 0, none⟩) 1 (pks [(nm, v)]) := by
  subst hg
  have h := Reads.newL w 63 #[.string nm, .int .i64 v]
  exact ⟨rfl, fun _ => h.2 (by simp)⟩
def MakesP (w : World) (L : List Pk) (e : Ending) (w' : World) : Prop := ∃ A n c, e = .returned (.slice A n c) ∧ NewP w' 0 A n c L ∧ Below w.heap.size w w'
theorem MakesP.le {w w' : World} {A : Option Addr} {n c B : Nat} {L : List Pk} (h : NewP w B A n c L) : n ≤ c ∧ L.length = n := ⟨h.2.1, h.1.symm⟩
end Go.Proofs.YtmoeilkaadnnoaaGreat.Pick
/-
  Contracts of Same, the program's (over the library's Equal) and the document's: whether two lists are alike. Condition: the slices read as picks.
-/
namespace Go.Proofs.YtmoeilkaadnnoaaGreat.Pick
open Go Go.RowKit Go.Lib Go.Proofs.YtmoeilkaadnnoaaGreat.Need
set_option linter.unusedVariables false
def sameP (a : ByteArray) (b : Int) (c : ByteArray) (d : Int) : Bool := (a.toList == c.toList) && (b == d)
set_option maxRecDepth 100000 in
theorem eq_pick (a : ByteArray) (b : Int) (c : ByteArray) (d : Int) (w : World) : (Op.equalIn 10000 63 (.agg #[.string a, .int .i64 b]) (.agg #[.string c, .int .i64 d])).run Tryz.prog w = .ok (sameP a b c d) w := by
  have hf : Tryz.prog.underlying 63 = some (.struct (Tryz.prog.fieldsOf 63)) := by kernel_rfl
  have hs : Tryz.prog.stoodInHeld 63 = false := by kernel_rfl
  have hl := hf.symm.trans Tryz.underlying63
  injection hl with hl
  injection hl with hl
  have ha : ∀ w, (isAgg 3).run Tryz.prog w = .ok false w := Tryz.isAgg3
  rw [run_equalIn_struct w 9999 _ _ _ hf hs, hl]
  unfold sameP
  have ha2 : ∀ w, (isAgg 9).run Tryz.prog w = .ok false w := Tryz.isAgg9
  cases hx : (a.toList == c.toList) <;> cases hy : (b == d) <;>
    simp [Op.eqFields, part, ha, ha2, run_equalIn_string _ 9998 9 _ _ Tryz.underlying9, run_equalIn_int _ 9998 3 .i64 .i64 _ _ Tryz.underlying3, hx, hy]
end Go.Proofs.YtmoeilkaadnnoaaGreat.Pick
/-
  Contracts of the document's Get, Drop and Put. Condition: no more than 1,000,000 picks.
-/
namespace Go.Proofs.YtmoeilkaadnnoaaGreat.Pick
open Go Go.RowKit Go.Lib Go.Proofs.YtmoeilkaadnnoaaGreat.Need
set_option linter.unusedVariables false
set_option maxHeartbeats 2000000 in
theorem refGetP_any (l : List Pk) (nm : ByteArray) (A : Option Addr) (n c : Nat) (w : World) (h : PkOn w A n l) (hn : n ≤ 1000000) :
    Calls Tryz.prog 37 #[.slice A n c, .string nm] w fun e w' => e = .returned (.tuple #[.int .i64 ((getP l nm).getD 0), .bool (getP l nm).isSome]) ∧ w' = w := by
  have hlen := hide h.len
  have Hd := hide (fun i q => @getP_drop l nm i q)
  obtain ⟨r, hr⟩ : ∃ r, r = getP l nm := ⟨_, rfl⟩
  rw [← hr]
  have Hr := hide hr
  clear hr
  go_enter Tryz.func37, Tryz.ntmps37
  go_wp2
  go_loopw [6] (fun v wr => ∃ i : Nat, i ≤ n ∧ v = .int .i64 (i : Int) ∧ Hid (r = getP (l.drop i) nm) ∧ wr = w) (fun v _ => n - (RowKit.intOf v).toNat)
  case atStart => exact ⟨0, by omega, rfl, Hr, rfl⟩
  case round =>
    obtain ⟨i, hi, rfl, hf, rfl⟩ := hrel
    by_cases hlt : i < n
    · obtain ⟨ad, q, rfl, hbl, hx, c1, c2⟩ := PkIn.at_ h hlt
      have hd := hf.out.trans (Hd.out i q hx)
      have he := eq_names q.1 nm
      clear hx hf Hd Hr h
      by_cases hq : q.1 = nm
      · rw [if_pos hq] at hd
        rw [decide_eq_true hq] at he
        have e := hide hd
        clear hd hq
        go_wp2
        go_ret2
        exact ⟨by rw [e.out]; rfl, rfl⟩
      · rw [if_neg hq] at hd
        rw [decide_eq_false hq] at he
        have e := hide hd
        clear hd hq
        go_wp2
        go_roundw
        case rel => exact ⟨i + 1, by omega, by go_num, e, by trivial⟩
        case measure => simp [RowKit.intOf]; omega
    · have e : Hid (r = none) := hide (by rw [hf.out, List.drop_of_length_le (by have := hlen.out; omega)]; rfl)
      clear hf
      go_wp2
      go_ret2
      exact ⟨by rw [e.out]; rfl, rfl⟩
end Go.Proofs.YtmoeilkaadnnoaaGreat.Pick
/-
  Where a name's pick stands among picks whose names rise, or would stand; what is got, put and dropped by that place. No program.
-/
namespace Go.Proofs.YtmoeilkaadnnoaaGreat.Pick
open Go.RowKit Go.Lib Go.Proofs.YtmoeilkaadnnoaaGreat.Span Go.Proofs.YtmoeilkaadnnoaaGreat.Need
set_option linter.unusedVariables false
def fidx : List Pk → ByteArray → Nat
  | [], _ => 0
  | q :: t, n => if nlt q.1 n = true then fidx t n + 1 else 0
theorem fidx_le : ∀ (l : List Pk) (n : ByteArray), fidx l n ≤ l.length
  | [], _ => Nat.le_refl _
  | q :: t, n => by
    unfold fidx
    have := fidx_le t n
    split
    · simpa using this
    · exact Nat.zero_le _
theorem fidx_lt : ∀ {l : List Pk}, RisesP l → ∀ (n : ByteArray) (i : Nat) (q : Pk), l[i]? = some q → (nlt q.1 n = true ↔ i < fidx l n)
  | [], _, n, i, q, h => by simp at h
  | x :: t, hr, n, 0, q, h => by
    simp at h
    subst h
    unfold fidx
    split
    · rename_i g; simp [g]
    · rename_i g; simp [g]
  | x :: t, hr, n, i + 1, q, h => by
    rw [List.getElem?_cons_succ] at h
    obtain ⟨h1, h2⟩ := List.pairwise_cons.1 hr
    have ih := fidx_lt h2 n i q h
    unfold fidx
    split
    · rw [ih]; omega
    · rename_i g
      constructor
      · intro g2
        exact absurd (nlt_trans (h1 q (List.mem_of_getElem? h)) g2) g
      · intro g2; omega
theorem above {x : Pk} {t : List Pk} {n : ByteArray} (h : ∀ q ∈ t, nlt x.1 q.1 = true) (g : ¬ nlt x.1 n = true) : ∀ q ∈ t, nlt n q.1 = true := fun q hq => by
  rcases nlt_cases x.1 n with g1 | g1 | g1
  · exact absurd g1 g
  · rw [← g1]; exact h q hq
  · exact nlt_trans g1 (h q hq)
theorem above_ne {t : List Pk} {n : ByteArray} (h : ∀ q ∈ t, nlt n q.1 = true) : ∀ q ∈ t, q.1 ≠ n := fun q hq e => by
  have := h q hq
  rw [e, nlt_self] at this
  cases this
theorem fidx_get : ∀ {l : List Pk}, RisesP l → ∀ (n : ByteArray), getP l n = (l[fidx l n]?).bind fun q => if q.1 = n then some q.2 else none
  | [], _, n => rfl
  | x :: t, hr, n => by
    obtain ⟨h1, h2⟩ := List.pairwise_cons.1 hr
    have ih := fidx_get h2 n
    unfold fidx
    split
    · rename_i g
      rw [getP, if_neg (nlt_ne g), List.getElem?_cons_succ]
      exact ih
    · rename_i g
      rw [getP]
      show _ = (some x).bind _
      rw [Option.bind_some]
      by_cases e : x.1 = n
      · rw [if_pos e, if_pos e]
      · rw [if_neg e, if_neg e, getP_none (above_ne (above h1 g))]
def nidx (l : List Pk) (n : ByteArray) : Nat := if (getP l n).isSome = true then fidx l n + 1 else fidx l n
end Go.Proofs.YtmoeilkaadnnoaaGreat.Pick
