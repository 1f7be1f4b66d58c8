/-
  Some texts of this claim, one behind the other: PickMath, PickFidx. What each proves, and its condition, stands at its head.
-/
import Derived.Test.YtjbjdoioallpkaaGreatDoorZ13
import Derived.Test.YtjbjdoioallpkaaGreatDoorZ10
/-
  Plain mathematics of picks: which may be; what is got, put and dropped. No program.
-/
namespace Go.Proofs.YtjbjdoioallpkaaGreatDoor.Pick
open Go.RowKit Go.Lib Go.Proofs.YtjbjdoioallpkaaGreatDoor.Span Go.Proofs.YtjbjdoioallpkaaGreatDoor.Need
open Go.Proofs.YtjbjdoioallpkaaGreatDoor.Label (runes fitL runes_end)
set_option linter.unusedVariables false
/-- A pick: its name, its version's place. -/
abbrev Pk := ByteArray × Int
theorem nlt_cases (a b : ByteArray) : nlt a b = true ∨ a = b ∨ nlt b a = true := by
  cases h1 : nlt a b
  · cases h2 : nlt b a
    · exact .inr (.inl (nlt_tri h1 h2))
    · exact .inr (.inr rfl)
  · exact .inl rfl
/-- How two texts stand, in the words of the walk. -/
theorem triP (a b : ByteArray) : (Op.bytesLess a.toList b.toList = true ∧ nlt b a = false ∧ (a.toList == b.toList) = false) ∨ (Op.bytesLess a.toList b.toList = false ∧ nlt b a = false ∧ (a.toList == b.toList) = true) ∨ (Op.bytesLess a.toList b.toList = false ∧ nlt b a = true ∧ (a.toList == b.toList) = false) := by
  rw [eq_names]
  show (nlt a b = true ∧ _) ∨ (nlt a b = false ∧ _) ∨ (nlt a b = false ∧ _)
  rcases nlt_cases a b with h | h | h
  · exact .inl ⟨h, nlt_asymm h, decide_eq_false (nlt_ne h)⟩
  · exact .inr (.inl ⟨by rw [h]; exact nlt_self b, by rw [h]; exact nlt_self b, decide_eq_true h⟩)
  · exact .inr (.inr ⟨nlt_asymm h, h, decide_eq_false fun e => nlt_ne h e.symm⟩)
/-- Names rise. -/
def RisesP (l : List Pk) : Prop := l.Pairwise fun x y => nlt x.1 y.1 = true
/-- The version of a name. -/
def getP : List Pk → ByteArray → Option Int
  | [], _ => none
  | q :: t, n => if q.1 = n then some q.2 else getP t n
theorem getP_none {l : List Pk} {n : ByteArray} (h : ∀ q ∈ l, q.1 ≠ n) : getP l n = none := by
  induction l with
  | nil => rfl
  | cons x t ih => rw [getP, if_neg (h x (by simp))]; exact ih fun q hq => h q (by simp [hq])
theorem getP_in {l : List Pk} {n : ByteArray} {v : Int} (h : getP l n = some v) : (n, v) ∈ l := by
  induction l with
  | nil => cases h
  | cons x t ih =>
    rw [getP] at h
    split at h
    · rename_i e
      injection h with h
      subst e h
      simp
    · exact List.mem_cons_of_mem _ (ih h)
theorem getP_mem {l : List Pk} (hr : RisesP l) {q : Pk} (hq : q ∈ l) : getP l q.1 = some q.2 := by
  induction l with
  | nil => cases hq
  | cons x t ih =>
    obtain ⟨h1, h2⟩ := List.pairwise_cons.1 hr
    rcases List.mem_cons.1 hq with rfl | hq
    · rw [getP, if_pos rfl]
    · rw [getP, if_neg (nlt_ne (h1 q hq)), ih h2 hq]
theorem getP_drop {l : List Pk} {n : ByteArray} {i : Nat} {q : Pk} (h : l[i]? = some q) : getP (l.drop i) n = if q.1 = n then some q.2 else getP (l.drop (i + 1)) n := by
  obtain ⟨hi, e⟩ := List.getElem?_eq_some_iff.1 h
  rw [List.drop_eq_getElem_cons hi, e]
  rfl
/-- One name more, in its place; 'i': it has been put already (the document's way). -/
def insP (n : Pk) : Bool → List Pk → List Pk
  | i, [] => if i = true then [] else [n]
  | i, x :: t => if i = false ∧ nlt n.1 x.1 = true then n :: x :: insP n true t else x :: insP n i t
theorem insP_true (n : Pk) (l : List Pk) : insP n true l = l := by
  induction l with
  | nil => rfl
  | cons x t ih => rw [insP, if_neg (by simp), ih]
theorem insP_lt {n x : Pk} {t : List Pk} (h : nlt n.1 x.1 = true) : insP n false (x :: t) = n :: x :: t := by rw [insP, if_pos ⟨rfl, h⟩, insP_true]
theorem insP_ge {n x : Pk} {t : List Pk} (h : nlt n.1 x.1 = false) : insP n false (x :: t) = x :: insP n false t := by rw [insP, if_neg (by rw [h]; simp)]
theorem insP_mem (n : Pk) (l : List Pk) {z : Pk} : z ∈ insP n false l ↔ z = n ∨ z ∈ l := by
  induction l with
  | nil => simp [insP]
  | cons y t ih =>
    cases h : nlt n.1 y.1 with
    | true => rw [insP_lt h]; simp
    | false =>
      rw [insP_ge h, List.mem_cons, List.mem_cons, ih]
      constructor
      · rintro (h | h | h)
        · exact .inr (.inl h)
        · exact .inl h
        · exact .inr (.inr h)
      · rintro (h | h | h)
        · exact .inr (.inl h)
        · exact .inl h
        · exact .inr (.inr h)
theorem insP_len (n : Pk) (l : List Pk) : (insP n false l).length = l.length + 1 := by
  induction l with
  | nil => rfl
  | cons y t ih =>
    cases h : nlt n.1 y.1 with
    | true => rw [insP_lt h]; simp
    | false => rw [insP_ge h]; simp [ih]
theorem insP_rises {n : Pk} {l : List Pk} (hl : RisesP l) (hn : ∀ q ∈ l, q.1 ≠ n.1) : RisesP (insP n false l) := by
  induction l with
  | nil => exact List.pairwise_singleton _ _
  | cons y t ih =>
    obtain ⟨h1, h2⟩ := List.pairwise_cons.1 hl
    cases h : nlt n.1 y.1 with
    | true =>
      rw [insP_lt h]
      refine List.pairwise_cons.2 ⟨fun z hz => ?_, hl⟩
      rcases List.mem_cons.1 hz with rfl | hz
      · exact h
      · exact nlt_trans h (h1 z hz)
    | false =>
      rw [insP_ge h]
      refine List.pairwise_cons.2 ⟨fun z hz => ?_, ih h2 fun q hq => hn q (by simp [hq])⟩
      rcases (insP_mem n t).1 hz with rfl | hz
      · rcases nlt_cases y.1 z.1 with g | g | g
        · exact g
        · exact absurd g (hn y (by simp))
        · rw [g] at h; cases h
      · exact h1 z hz
theorem insP_at {n : Pk} {l : List Pk} (hn : ∀ q ∈ l, q.1 ≠ n.1) (nm : ByteArray) : getP (insP n false l) nm = if n.1 = nm then some n.2 else getP l nm := by
  induction l with
  | nil => rfl
  | cons y t ih =>
    cases h : nlt n.1 y.1 with
    | true => rw [insP_lt h, getP]
    | false =>
      rw [insP_ge h, getP, getP, ih fun q hq => hn q (by simp [hq])]
      by_cases e : y.1 = nm
      · rw [if_pos e, if_pos e, if_neg (fun g => hn y (by simp) (by rw [e, g]))]
      · rw [if_neg e, if_neg e]
/-- Is there a version of a place? -/
def verOk (v : Int) : Bool := decide (0 ≤ v ∧ v < 1000000000)
theorem verOk_iff {v : Int} : verOk v = true ↔ 0 ≤ v ∧ v < 1000000000 := by unfold verOk; simp
/-- Picks that may be, behind a name. -/
def okQ : ByteArray → List Pk → Bool
  | _, [] => true
  | a, q :: t => (nlt a q.1 && (fitL (runes q.1 0) && verOk q.2)) && okQ q.1 t
def okP (l : List Pk) : Bool := okQ ByteArray.empty l
theorem okQ_drop {l : List Pk} {a : ByteArray} {i : Nat} {q : Pk} (h : l[i]? = some q) : okQ a (l.drop i) = ((nlt a q.1 && (fitL (runes q.1 0) && verOk q.2)) && okQ q.1 (l.drop (i + 1))) := by
  obtain ⟨hi, e⟩ := List.getElem?_eq_some_iff.1 h
  rw [List.drop_eq_getElem_cons hi, e]
  rfl
theorem okQ_all {l : List Pk} : ∀ {a : ByteArray}, okQ a l = true → ∀ q ∈ l, nlt a q.1 = true ∧ fitL (runes q.1 0) = true ∧ verOk q.2 = true := by
  induction l with
  | nil => intro a _ q hq; cases hq
  | cons x t ih =>
    intro a h q hq
    simp only [okQ, Bool.and_eq_true] at h
    obtain ⟨⟨h1, h2, h3⟩, h5⟩ := h
    rcases List.mem_cons.1 hq with rfl | hq
    · exact ⟨h1, h2, h3⟩
    · obtain ⟨g1, g2⟩ := ih h5 q hq
      exact ⟨nlt_trans h1 g1, g2⟩
theorem okQ_rises {l : List Pk} : ∀ {a : ByteArray}, okQ a l = true → RisesP l := by
  induction l with
  | nil => intro a _; exact List.Pairwise.nil
  | cons x t ih =>
    intro a h
    simp only [okQ, Bool.and_eq_true] at h
    exact List.pairwise_cons.2 ⟨fun q hq => (okQ_all h.2 q hq).1, ih h.2⟩
theorem okQ_of {l : List Pk} : ∀ {a : ByteArray}, RisesP l → (∀ q ∈ l, nlt a q.1 = true) → (∀ q ∈ l, fitL (runes q.1 0) = true ∧ verOk q.2 = true) → okQ a l = true := by
  induction l with
  | nil => intro a _ _ _; rfl
  | cons x t ih =>
    intro a hr ha hf
    obtain ⟨h1, h2⟩ := List.pairwise_cons.1 hr
    simp only [okQ, Bool.and_eq_true]
    exact ⟨⟨ha x (by simp), hf x (by simp)⟩, ih h2 h1 fun q hq => hf q (by simp [hq])⟩
/-- A name that may be is not empty: so nothing stands ahead of the first one. -/
theorem fit_some {x : ByteArray} (h : fitL (runes x 0) = true) : x ≠ ByteArray.empty := by
  rintro rfl
  rw [runes_end _ _ (by decide)] at h
  cases h
theorem empty_lt {x : ByteArray} (h : x ≠ ByteArray.empty) : nlt ByteArray.empty x = true := by
  rcases nlt_cases ByteArray.empty x with g | g | g
  · exact g
  · exact absurd g.symm h
  · rw [nlt_iff] at g
    rw [Lib.toList_data ByteArray.empty] at g
    exact absurd g (List.not_lt_nil _)
theorem okP_iff {l : List Pk} : okP l = true ↔ RisesP l ∧ ∀ q ∈ l, fitL (runes q.1 0) = true ∧ verOk q.2 = true :=
  ⟨fun h => ⟨okQ_rises h, fun q hq => (okQ_all h q hq).2⟩, fun h => okQ_of h.1 (fun q hq => empty_lt (fit_some (h.2 q hq).1)) h.2⟩
/-- Those of no such name. -/
def dropP (l : List Pk) (n : ByteArray) : List Pk := l.filter fun q => decide (q.1 ≠ n)
theorem dropP_take {l : List Pk} {n : ByteArray} {i : Nat} {q : Pk} (h : l[i]? = some q) : dropP (l.take (i + 1)) n = if q.1 = n then dropP (l.take i) n else dropP (l.take i) n ++ [q] := by
  unfold dropP
  rw [take_snoc' l i q h, List.filter_append]
  by_cases e : q.1 = n <;> simp [e]
theorem dropP_mem {l : List Pk} {n : ByteArray} {q : Pk} : q ∈ dropP l n ↔ q ∈ l ∧ q.1 ≠ n := by unfold dropP; simp
theorem dropP_rises {l : List Pk} (h : RisesP l) (n : ByteArray) : RisesP (dropP l n) := List.Pairwise.filter _ h
theorem dropP_ok {l : List Pk} (h : okP l = true) (n : ByteArray) : okP (dropP l n) = true :=
  okP_iff.2 ⟨dropP_rises (okP_iff.1 h).1 n, fun q hq => (okP_iff.1 h).2 q (dropP_mem.1 hq).1⟩
theorem dropP_none {l : List Pk} {n : ByteArray} (h : ∀ q ∈ l, q.1 ≠ n) : dropP l n = l := by
  unfold dropP
  rw [List.filter_eq_self]
  intro q hq
  simp [h q hq]
theorem dropP_get {l : List Pk} (n x : ByteArray) : getP (dropP l n) x = if x = n then none else getP l x := by
  induction l with
  | nil => simp [dropP, getP]
  | cons q t ih =>
    by_cases e : q.1 = n
    · have : dropP (q :: t) n = dropP t n := by unfold dropP; simp [e]
      rw [this, ih]
      by_cases g : x = n
      · rw [if_pos g, if_pos g]
      · rw [if_neg g, if_neg g, getP, if_neg (fun f => g (by rw [← f, e]))]
    · have : dropP (q :: t) n = q :: dropP t n := by unfold dropP; simp [e]
      rw [this, getP, ih, getP]
      by_cases g : q.1 = x
      · rw [if_pos g, if_neg (fun f => e (by rw [g, f])), if_pos g]
      · rw [if_neg g, if_neg g]
/-- What is put stands in its place. -/
def putP (l : List Pk) (p : Pk) : List Pk := insP p false (dropP l p.1)
theorem drop_ne {l : List Pk} {n : ByteArray} : ∀ q ∈ dropP l n, q.1 ≠ n := fun q hq => (dropP_mem.1 hq).2
theorem putP_ok {l : List Pk} {p : Pk} (h : okP l = true) (hf : fitL (runes p.1 0) = true) (hv : verOk p.2 = true) : okP (putP l p) = true := by
  obtain ⟨h1, h2⟩ := okP_iff.1 (dropP_ok h p.1)
  refine okP_iff.2 ⟨insP_rises h1 drop_ne, fun q hq => ?_⟩
  rcases (insP_mem p _).1 hq with rfl | hq
  · exact ⟨hf, hv⟩
  · exact h2 q hq
theorem putP_get {l : List Pk} (p : Pk) (x : ByteArray) : getP (putP l p) x = if p.1 = x then some p.2 else getP l x := by
  unfold putP
  rw [insP_at drop_ne, dropP_get]
  by_cases e : p.1 = x
  · rw [if_pos e, if_pos e]
  · rw [if_neg e, if_neg e, if_neg (fun g => e g.symm)]
theorem putP_len (l : List Pk) (p : Pk) : (putP l p).length ≤ l.length + 1 := by
  unfold putP
  rw [insP_len]
  have : (dropP l p.1).length ≤ l.length := List.length_filter_le _ _
  omega
/-- Two lists whose names rise and that tell the same of each name are one. -/
theorem same_get : ∀ {l m : List Pk}, RisesP l → RisesP m → (∀ x, getP l x = getP m x) → l = m
  | [], [], _, _, _ => rfl
  | [], y :: m, _, _, h => by
    have := h y.1
    rw [getP, getP, if_pos rfl] at this
    cases this
  | x :: l, [], _, _, h => by
    have := h x.1
    rw [getP, getP, if_pos rfl] at this
    cases this
  | x :: l, y :: m, hl, hm, h => by
    obtain ⟨a1, a2⟩ := List.pairwise_cons.1 hl
    obtain ⟨b1, b2⟩ := List.pairwise_cons.1 hm
    have hxy : x.1 = y.1 := by
      rcases nlt_cases x.1 y.1 with g | g | g
      · have e := h x.1
        rw [getP, if_pos rfl, getP_none] at e
        · cases e
        · intro q hq f
          rcases List.mem_cons.1 hq with rfl | hq
          · rw [f, nlt_self] at g; cases g
          · have := nlt_trans g (b1 q hq)
            rw [f, nlt_self] at this; cases this
      · exact g
      · have e := h y.1
        rw [getP_none, getP, if_pos rfl] at e
        · cases e
        · intro q hq f
          rcases List.mem_cons.1 hq with rfl | hq
          · rw [f, nlt_self] at g; cases g
          · have := nlt_trans g (a1 q hq)
            rw [f, nlt_self] at this; cases this
    have hv : x.2 = y.2 := by
      have e := h x.1
      rw [getP, if_pos rfl, getP, if_pos hxy.symm] at e
      injection e
    have e1 : x = y := Prod.ext hxy hv
    subst e1
    congr 1
    refine same_get a2 b2 fun z => ?_
    have e := h z
    rw [getP, getP] at e
    by_cases g : x.1 = z
    · rw [getP_none (fun q hq f => by have := a1 q hq; rw [f, ← g, nlt_self] at this; cases this), getP_none (fun q hq f => by have := b1 q hq; rw [f, ← g, nlt_self] at this; cases this)]
    · rwa [if_neg g, if_neg g] at e
/-- What was put is dropped again. -/
theorem put_drop {l : List Pk} (hl : RisesP l) (p : Pk) : dropP (putP l p) p.1 = dropP l p.1 := by
  refine same_get (dropP_rises (insP_rises (dropP_rises hl _) drop_ne) _) (dropP_rises hl _) fun x => ?_
  rw [dropP_get, dropP_get, putP_get]
  by_cases e : x = p.1
  · rw [if_pos e, if_pos e]
  · rw [if_neg e, if_neg e, if_neg (fun g => e g.symm)]
end Go.Proofs.YtjbjdoioallpkaaGreatDoor.Pick
/-
  Where a name's pick stands among picks whose names rise, or would stand; what is got, put and dropped by that place. No program.
-/
namespace Go.Proofs.YtjbjdoioallpkaaGreatDoor.Pick
open Go.RowKit Go.Lib Go.Proofs.YtjbjdoioallpkaaGreatDoor.Span Go.Proofs.YtjbjdoioallpkaaGreatDoor.Need
set_option linter.unusedVariables false
/-- How many picks stand ahead of a name. -/
def fidx : List Pk → ByteArray → Nat
  | [], _ => 0
  | q :: t, n => if nlt q.1 n = true then fidx t n + 1 else 0
theorem fidx_le : ∀ (l : List Pk) (n : ByteArray), fidx l n ≤ l.length
  | [], _ => Nat.le_refl _
  | q :: t, n => by
    unfold fidx
    have := fidx_le t n
    split
    · simpa using this
    · exact Nat.zero_le _
theorem fidx_lt : ∀ {l : List Pk}, RisesP l → ∀ (n : ByteArray) (i : Nat) (q : Pk), l[i]? = some q → (nlt q.1 n = true ↔ i < fidx l n)
  | [], _, n, i, q, h => by simp at h
  | x :: t, hr, n, 0, q, h => by
    simp at h
    subst h
    unfold fidx
    split
    · rename_i g; simp [g]
    · rename_i g; simp [g]
  | x :: t, hr, n, i + 1, q, h => by
    rw [List.getElem?_cons_succ] at h
    obtain ⟨h1, h2⟩ := List.pairwise_cons.1 hr
    have ih := fidx_lt h2 n i q h
    unfold fidx
    split
    · rw [ih]; omega
    · rename_i g
      constructor
      · intro g2
        exact absurd (nlt_trans (h1 q (List.mem_of_getElem? h)) g2) g
      · intro g2; omega
/-- Those behind a name that is not less. -/
theorem above {x : Pk} {t : List Pk} {n : ByteArray} (h : ∀ q ∈ t, nlt x.1 q.1 = true) (g : ¬ nlt x.1 n = true) : ∀ q ∈ t, nlt n q.1 = true := fun q hq => by
  rcases nlt_cases x.1 n with g1 | g1 | g1
  · exact absurd g1 g
  · rw [← g1]; exact h q hq
  · exact nlt_trans g1 (h q hq)
theorem above_ne {t : List Pk} {n : ByteArray} (h : ∀ q ∈ t, nlt n q.1 = true) : ∀ q ∈ t, q.1 ≠ n := fun q hq e => by
  have := h q hq
  rw [e, nlt_self] at this
  cases this
/-- The pick of a name. -/
theorem fidx_get : ∀ {l : List Pk}, RisesP l → ∀ (n : ByteArray), getP l n = (l[fidx l n]?).bind fun q => if q.1 = n then some q.2 else none
  | [], _, n => rfl
  | x :: t, hr, n => by
    obtain ⟨h1, h2⟩ := List.pairwise_cons.1 hr
    have ih := fidx_get h2 n
    unfold fidx
    split
    · rename_i g
      rw [getP, if_neg (nlt_ne g), List.getElem?_cons_succ]
      exact ih
    · rename_i g
      rw [getP]
      show _ = (some x).bind _
      rw [Option.bind_some]
      by_cases e : x.1 = n
      · rw [if_pos e, if_pos e]
      · rw [if_neg e, if_neg e, getP_none (above_ne (above h1 g))]
/-- What stands behind: from the next one on, if the name has a pick. -/
def nidx (l : List Pk) (n : ByteArray) : Nat := if (getP l n).isSome = true then fidx l n + 1 else fidx l n
theorem drop_fidx : ∀ {l : List Pk}, RisesP l → ∀ (n : ByteArray), dropP l n = l.take (fidx l n) ++ l.drop (nidx l n)
  | [], _, n => by simp [dropP, fidx]
  | x :: t, hr, n => by
    obtain ⟨h1, h2⟩ := List.pairwise_cons.1 hr
    have ih := drop_fidx h2 n
    unfold nidx at ih ⊢
    rw [getP]
    unfold fidx
    by_cases g : nlt x.1 n = true
    · rw [if_pos g, if_neg (nlt_ne g)]
      have e : dropP (x :: t) n = x :: dropP t n := by unfold dropP; simp [nlt_ne g]
      rw [e, ih, List.take_succ_cons]
      split <;> simp
    · rw [if_neg g]
      by_cases e : x.1 = n
      · rw [if_pos e]
        have e2 : dropP (x :: t) n = dropP t n := by unfold dropP; simp [e]
        rw [e2, dropP_none (above_ne (above h1 g))]
        simp
      · rw [if_neg e, getP_none (above_ne (above h1 g))]
        have e2 : dropP (x :: t) n = x :: dropP t n := by unfold dropP; simp [e]
        rw [e2, dropP_none (above_ne (above h1 g))]
        simp
theorem ins_first {p : Pk} {t : List Pk} (h : ∀ q ∈ t, nlt p.1 q.1 = true) : insP p false t = p :: t := by
  cases t with
  | nil => rfl
  | cons y u => exact insP_lt (h y (by simp))
theorem put_fidx : ∀ {l : List Pk}, RisesP l → ∀ (p : Pk), putP l p = l.take (fidx l p.1) ++ ([p] ++ l.drop (nidx l p.1))
  | [], _, p => by simp [putP, dropP, fidx, insP]
  | x :: t, hr, p => by
    obtain ⟨h1, h2⟩ := List.pairwise_cons.1 hr
    have ih := put_fidx h2 p
    unfold putP nidx at ih ⊢
    rw [getP]
    unfold fidx
    by_cases g : nlt x.1 p.1 = true
    · rw [if_pos g, if_neg (nlt_ne g)]
      have e : dropP (x :: t) p.1 = x :: dropP t p.1 := by unfold dropP; simp [nlt_ne g]
      rw [e, insP_ge (nlt_asymm g), ih, List.take_succ_cons]
      split <;> simp
    · rw [if_neg g]
      have ha := above h1 g
      by_cases e : x.1 = p.1
      · rw [if_pos e]
        have e2 : dropP (x :: t) p.1 = dropP t p.1 := by unfold dropP; simp [e]
        rw [e2, dropP_none (above_ne ha), ins_first ha]
        simp
      · rw [if_neg e, getP_none (above_ne ha)]
        have e2 : dropP (x :: t) p.1 = x :: dropP t p.1 := by unfold dropP; simp [e]
        have e3 : nlt p.1 x.1 = true := by
          rcases nlt_cases x.1 p.1 with f | f | f
          · exact absurd f g
          · exact absurd f e
          · exact f
        rw [e2, dropP_none (above_ne ha), insP_lt e3]
        simp
end Go.Proofs.YtjbjdoioallpkaaGreatDoor.Pick
