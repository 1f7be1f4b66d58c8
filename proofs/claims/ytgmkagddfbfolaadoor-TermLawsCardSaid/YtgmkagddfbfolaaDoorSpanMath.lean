/-
  Sets of places as lists of spans: what a list has, which lists are sets, that a set is told by what it has, edges, cuts, counts. No condition. Of no program.
-/
import Derived.Test.YtgmkagddfbfolaaDoorBase
namespace Go.Proofs.YtgmkagddfbfolaaDoor.Span
set_option linter.unusedVariables false
abbrev S := Int × Int
/-- What a list of spans has. -/
def has (l : List S) (p : Int) : Bool := l.any fun s => decide (s.1 ≤ p) && decide (p < s.2)
/-- Whether a list is a set, each span above e. -/
def isSet : Int → List S → Bool
  | _, [] => true
  | e, s :: t => decide (e < s.1) && decide (s.1 < s.2) && decide (s.2 ≤ 1000000000) && isSet s.2 t
def endOf : Int → List S → Int
  | e, [] => e
  | _, s :: t => endOf s.2 t
theorem has_nil (p : Int) : has [] p = false := rfl
theorem has_cons (s : S) (t : List S) (p : Int) : has (s :: t) p = (decide (s.1 ≤ p) && decide (p < s.2) || has t p) := by simp [has]
theorem has_append (a b : List S) (p : Int) : has (a ++ b) p = (has a p || has b p) := by simp [has]
theorem has_one (s : S) (p : Int) : has [s] p = (decide (s.1 ≤ p) && decide (p < s.2)) := by simp [has]
theorem has_iff (l : List S) (p : Int) : has l p = true ↔ ∃ s ∈ l, s.1 ≤ p ∧ p < s.2 := by simp [has]
theorem has_of_perm {a b : List S} (h : ∀ s, s ∈ a ↔ s ∈ b) (p : Int) : has a p = has b p := by
  rw [Bool.eq_iff_iff, has_iff, has_iff]; simp [h]
theorem isSet_cons (e : Int) (s : S) (t : List S) : isSet e (s :: t) = true ↔ e < s.1 ∧ s.1 < s.2 ∧ s.2 ≤ 1000000000 ∧ isSet s.2 t = true := by
  simp [isSet, and_assoc]
theorem isSet_append (a b : List S) : ∀ e, isSet e (a ++ b) = (isSet e a && isSet (endOf e a) b) := by
  induction a with
  | nil => intro e; simp [isSet, endOf]
  | cons s t ih => intro e; simp [isSet, endOf, ih, Bool.and_assoc]
theorem endOf_append (a b : List S) : ∀ e, endOf e (a ++ b) = endOf (endOf e a) b := by
  induction a with
  | nil => intro e; rfl
  | cons s t ih => intro e; simp [endOf, ih]
theorem endOf_snoc (a : List S) (s : S) (e : Int) : endOf e (a ++ [s]) = s.2 := by rw [endOf_append]; rfl
theorem isSet_snoc (a : List S) (s : S) (e : Int) : isSet e (a ++ [s]) = true ↔ isSet e a = true ∧ endOf e a < s.1 ∧ s.1 < s.2 ∧ s.2 ≤ 1000000000 := by
  rw [isSet_append, Bool.and_eq_true, isSet_cons]; simp [isSet]
theorem isSet_less {e e' : Int} {l : List S} (h : isSet e l = true) (he : e' ≤ e) : isSet e' l = true := by
  cases l with
  | nil => rfl
  | cons s t => rw [isSet_cons] at *; exact ⟨by omega, h.2⟩
theorem end_ge {l : List S} : ∀ {e : Int}, isSet e l = true → e ≤ endOf e l := by
  induction l with
  | nil => intro e h; simp [endOf]
  | cons s t ih => intro e h; rw [isSet_cons] at h; have := ih h.2.2.2; simp only [endOf]; omega
theorem end_le {l : List S} : ∀ {e : Int}, isSet e l = true → e ≤ 1000000000 → endOf e l ≤ 1000000000 := by
  induction l with
  | nil => intro e h he; simpa [endOf] using he
  | cons s t ih => intro e h he; rw [isSet_cons] at h; exact ih h.2.2.2 h.2.2.1
theorem mem_range {l : List S} : ∀ {e : Int}, isSet e l = true → ∀ s ∈ l, e < s.1 ∧ s.1 < s.2 ∧ s.2 ≤ 1000000000 ∧ s.2 ≤ endOf e l := by
  induction l with
  | nil => intro e h s hs; cases hs
  | cons x t ih =>
    intro e h s hs
    rw [isSet_cons] at h
    have hg := end_ge h.2.2.2
    rcases List.mem_cons.1 hs with rfl | hs
    · exact ⟨h.1, h.2.1, h.2.2.1, hg⟩
    · have := ih h.2.2.2 s hs
      exact ⟨by omega, this.2.1, this.2.2.1, this.2.2.2⟩
theorem len_end {l : List S} : ∀ {e : Int}, isSet e l = true → (l.length : Int) ≤ endOf e l - e := by
  induction l with
  | nil => intro e h; simp [endOf]
  | cons s t ih => intro e h; rw [isSet_cons] at h; have := ih h.2.2.2; simp only [endOf, List.length_cons]; omega
theorem len_le {l : List S} (h : isSet (-1) l = true) : l.length ≤ 1000000001 := by
  have h1 := len_end h
  have h2 := end_le h (by omega)
  omega
theorem has_range {l : List S} {e p : Int} (h : isSet e l = true) (hp : has l p = true) : e < p ∧ p < 1000000000 ∧ p < endOf e l := by
  obtain ⟨s, hs, h1, h2⟩ := (has_iff l p).1 hp
  have := mem_range h s hs
  exact ⟨by omega, by omega, by omega⟩
theorem has_low {l : List S} {e p : Int} (h : isSet e l = true) (hp : p ≤ e) : has l p = false := by
  cases hh : has l p with
  | false => rfl
  | true => have := has_range h hh; omega
/-- A set is told by what it has. -/
theorem unique (a : List S) : ∀ (b : List S) (e : Int), isSet e a = true → isSet e b = true → (∀ p, e < p → p < 1000000000 → has a p = has b p) → a = b := by
  induction a with
  | nil =>
    intro b e _ hb h
    cases b with
    | nil => rfl
    | cons s t =>
      rw [isSet_cons] at hb
      have := h s.1 hb.1 (by omega)
      rw [has_nil, has_cons] at this
      simp [hb.2.1] at this
  | cons s t ih =>
    intro b e ha hb h
    rw [isSet_cons] at ha
    cases b with
    | nil =>
      have := h s.1 ha.1 (by omega)
      rw [has_nil, has_cons] at this
      simp [ha.2.1] at this
    | cons s' t' =>
      rw [isSet_cons] at hb
      have hst : ∀ p, p ≤ s.2 → has t p = false := fun p hp => has_low ha.2.2.2 hp
      have hst' : ∀ p, p ≤ s'.2 → has t' p = false := fun p hp => has_low hb.2.2.2 hp
      have h1 : s.1 = s'.1 := by
        have e1 := h s.1 ha.1 (by omega)
        have e2 := h s'.1 hb.1 (by omega)
        rw [has_cons, has_cons] at e1 e2
        by_cases c1 : s.1 < s'.1
        · rw [hst' s.1 (by omega)] at e1; simp [ha.2.1] at e1; omega
        · by_cases c2 : s'.1 < s.1
          · rw [hst s'.1 (by omega)] at e2; simp [hb.2.1] at e2; omega
          · omega
      have h2 : s.2 = s'.2 := by
        by_cases c1 : s.2 < s'.2
        · have e1 := h s.2 (by omega) (by omega)
          rw [has_cons, has_cons, hst s.2 (by omega)] at e1
          have x1 : s'.1 ≤ s.2 := by omega
          simp [c1, x1] at e1
        · by_cases c2 : s'.2 < s.2
          · have e1 := h s'.2 (by omega) (by omega)
            rw [has_cons, has_cons, hst' s'.2 (by omega)] at e1
            have x1 : s.1 ≤ s'.2 := by omega
            simp [c2, x1] at e1
          · omega
      have hs : s = s' := Prod.ext h1 h2
      subst hs
      congr 1
      refine ih t' s.2 ha.2.2.2 hb.2.2.2 fun p hp hq => ?_
      have := h p (by omega) hq
      rw [has_cons, has_cons] at this
      have x : ¬ p < s.2 := by omega
      simpa [x] using this
/-- A set, and a span that begins no lower than its last one. -/
def put (l : List S) (s : S) : List S :=
  match l.getLast? with
  | none => [s]
  | some t => if t.2 < s.1 then l ++ [s] else l.dropLast ++ [(t.1, max t.2 s.2)]
theorem put_nil (s : S) : put [] s = [s] := rfl
theorem put_snoc (a : List S) (t s : S) : put (a ++ [t]) s = if t.2 < s.1 then a ++ [t] ++ [s] else a ++ [(t.1, max t.2 s.2)] := by
  simp [put]
theorem put_ok {l : List S} {s : S} (h : isSet (-1) l = true) (hl : ∀ x ∈ l, x.1 ≤ s.1) (h0 : 0 ≤ s.1) (h1 : s.1 < s.2) (h2 : s.2 ≤ 1000000000) :
    isSet (-1) (put l s) = true ∧ (∀ p, has (put l s) p = (has l p || (decide (s.1 ≤ p) && decide (p < s.2)))) ∧ ∀ x ∈ put l s, x.1 ≤ s.1 := by
  rcases List.eq_nil_or_concat l with rfl | ⟨a, t, rfl⟩
  · rw [put_nil]
    refine ⟨by rw [isSet_cons]; exact ⟨by omega, h1, h2, rfl⟩, fun p => by rw [has_one, has_nil, Bool.false_or], fun x hx => ?_⟩
    rw [List.mem_singleton.1 hx]; omega
  · rw [List.concat_eq_append] at *
    rw [put_snoc]
    have ht : t.1 ≤ s.1 := hl t (by simp)
    rw [isSet_snoc] at h
    split
    · rename_i c
      refine ⟨?_, fun p => by rw [has_append, has_one], fun x hx => ?_⟩
      · rw [isSet_snoc, isSet_snoc, endOf_snoc]; exact ⟨h, c, h1, h2⟩
      · rcases List.mem_append.1 hx with hx | hx
        · exact hl x hx
        · rw [List.mem_singleton.1 hx]; omega
    · rename_i c
      refine ⟨?_, fun p => ?_, fun x hx => ?_⟩
      · rw [isSet_snoc]; exact ⟨h.1, h.2.1, by simp only []; omega, by simp only []; omega⟩
      · rw [has_append, has_append, has_one, has_one, Bool.or_assoc]
        congr 1
        rw [Bool.eq_iff_iff]; simp only [Bool.or_eq_true, Bool.and_eq_true, decide_eq_true_eq]; omega
      · rcases List.mem_append.1 hx with hx | hx
        · exact hl x (by simp [hx])
        · rw [List.mem_singleton.1 hx]; exact ht
theorem put_length (l : List S) (s : S) : (put l s).length ≤ l.length + 1 ∧ l.length ≤ (put l s).length := by
  rcases List.eq_nil_or_concat l with rfl | ⟨a, t, rfl⟩
  · simp [put_nil]
  · rw [List.concat_eq_append, put_snoc]; split <;> simp
/-- There is a set of the places below n of which P is so. -/
theorem good_to (P : Int → Bool) (n : Nat) : n ≤ 1000000000 → ∃ L, isSet (-1) L = true ∧ (∀ p, has L p = (decide (0 ≤ p) && decide (p < (n : Int)) && P p)) := by
  induction n with
  | zero => intro _; exact ⟨[], rfl, fun p => by rw [has_nil]; symm; simp; omega⟩
  | succ n ih =>
    intro hn
    obtain ⟨L, h1, h2⟩ := ih (by omega)
    cases hP : P (n : Int) with
    | false =>
      refine ⟨L, h1, fun p => ?_⟩
      rw [h2 p]
      by_cases hp : p = (n : Int)
      · subst hp; simp [hP]
      · have : decide (p < ((n + 1 : Nat) : Int)) = decide (p < (n : Int)) := by
          rw [decide_eq_decide]; omega
        rw [this]
    | true =>
      have hl : ∀ x ∈ L, x.1 ≤ (n : Int) := fun x hx => by
        have hr := mem_range h1 x hx
        have : has L x.1 = true := (has_iff _ _).2 ⟨x, hx, by omega, by omega⟩
        rw [h2] at this
        simp at this
        omega
      obtain ⟨g1, g2, _⟩ := put_ok (s := ((n : Int), (n : Int) + 1)) h1 hl (by simp only []; omega) (by simp only []; omega) (by simp only []; omega)
      refine ⟨_, g1, fun p => ?_⟩
      rw [g2, h2]
      by_cases hp : p = (n : Int)
      · subst hp; simp [hP]
      · simp only []
        have e1 : (decide ((n : Int) ≤ p) && decide (p < (n : Int) + 1)) = false := by simp; omega
        have : decide (p < ((n + 1 : Nat) : Int)) = decide (p < (n : Int)) := by
          rw [decide_eq_decide]; omega
        rw [e1, this, Bool.or_false]
theorem good (P : Int → Bool) : ∃ L, isSet (-1) L = true ∧ (∀ p, has L p = (decide (0 ≤ p) && decide (p < 1000000000) && P p)) :=
  good_to P 1000000000 (Nat.le_refl _)
/-- The set of the places of which P is so. -/
noncomputable def nf (P : Int → Bool) : List S := Classical.choose (good P)
theorem nf_set (P : Int → Bool) : isSet (-1) (nf P) = true := (Classical.choose_spec (good P)).1
theorem nf_has (P : Int → Bool) (p : Int) : has (nf P) p = (decide (0 ≤ p) && decide (p < 1000000000) && P p) := (Classical.choose_spec (good P)).2 p
theorem nf_in (P : Int → Bool) {p : Int} (h0 : 0 ≤ p) (h1 : p < 1000000000) : has (nf P) p = P p := by rw [nf_has]; simp [h0, h1]
theorem is_nf {L : List S} {P : Int → Bool} (h : isSet (-1) L = true) (hp : ∀ p, 0 ≤ p → p < 1000000000 → has L p = P p) : L = nf P :=
  unique _ _ _ h (nf_set P) fun p h0 h1 => by rw [hp p (by omega) h1, nf_in P (by omega) h1]
theorem nf_congr {P Q : Int → Bool} (h : ∀ p, 0 ≤ p → p < 1000000000 → P p = Q p) : nf P = nf Q :=
  is_nf (nf_set P) fun p h0 h1 => by rw [nf_in P h0 h1]; exact h p h0 h1
theorem nf_self {a : List S} (h : isSet (-1) a = true) : nf (has a) = a := (is_nf h fun _ _ _ => rfl).symm
theorem nf_nil {P : Int → Bool} : nf P = [] ↔ ∀ p, 0 ≤ p → p < 1000000000 → P p = false :=
  ⟨fun h p h0 h1 => by rw [← nf_in P h0 h1, h]; rfl, fun h => (is_nf (L := []) rfl fun p h0 h1 => by rw [h p h0 h1]; rfl).symm⟩
/-- The part of it below n. -/
noncomputable def nfTo (P : Int → Bool) (n : Int) : List S := nf fun p => decide (p < n) && P p
theorem nfTo_zero (P : Int → Bool) : nfTo P 0 = [] := nf_nil.2 fun p h0 _ => by
  have : ¬ p < 0 := by omega
  simp [this]
theorem nfTo_top (P : Int → Bool) {n : Int} (hn : 1000000000 ≤ n) : nfTo P n = nf P := nf_congr fun p _ h1 => by
  have : p < n := by omega
  simp [this]
theorem nfTo_low {P : Int → Bool} {n : Int} : ∀ x ∈ nfTo P n, x.1 < n ∧ x.2 ≤ n ∧ 0 ≤ x.1 ∧ x.1 < x.2 ∧ x.2 ≤ 1000000000 := fun x hx => by
  have hr := mem_range (nf_set _) x hx
  have h1 : has (nfTo P n) x.1 = true := (has_iff _ _).2 ⟨x, hx, by omega, by omega⟩
  have h2 : has (nfTo P n) (x.2 - 1) = true := (has_iff _ _).2 ⟨x, hx, by omega, by omega⟩
  unfold nfTo at h1 h2
  rw [nf_has] at h1 h2
  simp at h1 h2
  omega
theorem nfTo_skip {P : Int → Bool} {lo hi : Int} (h : ∀ p, lo ≤ p → p < hi → P p = false) (hl : lo ≤ hi) : nfTo P hi = nfTo P lo := nf_congr fun p _ _ => by
  by_cases c : p < lo
  · have : p < hi := by omega
    simp [c, this]
  · by_cases d : p < hi
    · rw [h p (by omega) d]; simp
    · simp [c, d]
theorem nfTo_take {P : Int → Bool} {lo hi : Int} (h : ∀ p, lo ≤ p → p < hi → P p = true) (h0 : 0 ≤ lo) (hl : lo < hi) (ht : hi ≤ 1000000000) : nfTo P hi = put (nfTo P lo) (lo, hi) := by
  obtain ⟨g1, g2, _⟩ := put_ok (l := nfTo P lo) (s := (lo, hi)) (nf_set _) (fun x hx => by have := nfTo_low x hx; simp only []; omega) h0 hl ht
  refine (is_nf g1 fun p p0 p1 => ?_).symm
  rw [g2]
  unfold nfTo
  rw [nf_in _ p0 p1]
  simp only []
  by_cases c : p < lo
  · have x1 : p < hi := by omega
    have x2 : ¬ lo ≤ p := by omega
    simp [c, x1, x2]
  · by_cases d : p < hi
    · have x2 : lo ≤ p := by omega
      rw [h p x2 d]; simp [d, x2]
    · simp [c, d]
/-- Edges: where a set begins, or ends. -/
def edge (l : List S) (n : Nat) : Int := if n = 2 * l.length then 1000000000 else if n % 2 = 0 then (l[n / 2]?.getD (0, 0)).1 else (l[n / 2]?.getD (0, 0)).2
theorem edge_zero (s : S) (t : List S) : edge (s :: t) 0 = s.1 := by simp [edge]
theorem edge_one (s : S) (t : List S) : edge (s :: t) 1 = s.2 := by
  have h : ¬ (1 = 2 * (t.length + 1)) := by omega
  simp [edge, h]
theorem edge_two (s : S) (t : List S) (n : Nat) : edge (s :: t) (n + 2) = edge t n := by
  unfold edge
  have h1 : (n + 2 = 2 * (s :: t).length) ↔ n = 2 * t.length := by simp; omega
  have h2 : (n + 2) % 2 = n % 2 := by omega
  have h3 : (n + 2) / 2 = n / 2 + 1 := by omega
  simp only [h1, h2, h3, List.getElem?_cons_succ]
theorem edge_top (l : List S) : edge l (2 * l.length) = 1000000000 := by simp [edge]
theorem has_edges (a : List S) : ∀ (e : Int) (k : Nat) (q : Int), isSet e a = true → k ≤ 2 * a.length → (∀ m, m < k → edge a m ≤ q) → q < edge a k → has a q = decide (k % 2 = 1) := by
  induction a with
  | nil =>
    intro e k q _ hk _ _
    have : k = 0 := by simpa using hk
    subst this; rfl
  | cons s t ih =>
    intro e k q h hk hlo hhi
    rw [isSet_cons] at h
    rw [has_cons]
    match k, hk, hlo, hhi with
    | 0, _, _, hhi =>
      rw [edge_zero] at hhi
      rw [has_low h.2.2.2 (by omega)]
      have : ¬ s.1 ≤ q := by omega
      simp [this]
    | 1, _, hlo, hhi =>
      have h0 := hlo 0 (by omega)
      rw [edge_zero] at h0
      rw [edge_one] at hhi
      simp [h0, hhi]
    | n + 2, hk, hlo, hhi =>
      have h1 := hlo 1 (by omega)
      rw [edge_one] at h1
      rw [edge_two] at hhi
      have : ¬ q < s.2 := by omega
      simp only [this, decide_false, Bool.and_false, Bool.false_or]
      rw [ih s.2 n q h.2.2.2 (by simp at hk; omega) (fun m hm => by have := hlo (m + 2) (by omega); rwa [edge_two] at this) hhi]
      rw [Nat.add_mod_right]
theorem edge_range (a : List S) : ∀ (e : Int) (k : Nat), isSet e a = true → k ≤ 2 * a.length → edge a k ≤ 1000000000 := by
  induction a with
  | nil =>
    intro e k _ hk
    have : k = 0 := by simpa using hk
    subst this; simp [edge]
  | cons s t ih =>
    intro e k h hk
    rw [isSet_cons] at h
    match k, hk with
    | 0, _ => rw [edge_zero]; omega
    | 1, _ => rw [edge_one]; omega
    | n + 2, hk => rw [edge_two]; exact ih s.2 n h.2.2.2 (by simp at hk; omega)
/-- So many edges are not above p. -/
def Past (a : List S) (p : Int) (k : Nat) : Prop := k ≤ 2 * a.length ∧ ∀ m, m < k → edge a m ≤ p
theorem Past.more {a : List S} {p q : Int} {k : Nat} (h : Past a p k) (hpq : p ≤ q) : Past a q k := ⟨h.1, fun m hm => by have := h.2 m hm; omega⟩
theorem Past.has_ {a : List S} {e p q : Int} {k : Nat} (h : Past a p k) (hs : isSet e a = true) (hpq : p ≤ q) (hq : q < edge a k) : has a q = decide (k % 2 = 1) :=
  has_edges a e k q hs h.1 (fun m hm => by have := h.2 m hm; omega) hq
theorem Past.succ {a : List S} {p : Int} {k : Nat} (h : Past a p k) (hk : edge a k ≤ p) (hp : p < 1000000000) : Past a p (k + 1) := by
  refine ⟨?_, fun m hm => ?_⟩
  · have h1 := h.1
    rcases Nat.lt_or_ge k (2 * a.length) with c | c
    · omega
    · have : k = 2 * a.length := by omega
      subst this
      rw [edge_top] at hk
      omega
  · rcases Nat.lt_or_ge m k with c | c
    · exact h.2 m c
    · have : m = k := by omega
      subst this; exact hk
/-- The set of sorted spans, put one by one. -/
theorem foldl_put (d : List S) : ∀ (L : List S), isSet (-1) L = true → (∀ x ∈ L, ∀ y ∈ d, x.1 ≤ y.1) → d.Pairwise (fun x y => x.1 ≤ y.1) → (∀ y ∈ d, 0 ≤ y.1 ∧ y.1 < y.2 ∧ y.2 ≤ 1000000000) →
    isSet (-1) (d.foldl put L) = true ∧ ∀ p, has (d.foldl put L) p = (has L p || has d p) := by
  induction d with
  | nil => intro L h _ _ _; exact ⟨h, fun p => by simp [has_nil]⟩
  | cons s t ih =>
    intro L h hl hp hv
    obtain ⟨v0, v1, v2⟩ := hv s (by simp)
    obtain ⟨g1, g2, g3⟩ := put_ok h (fun x hx => hl x hx s (by simp)) v0 v1 v2
    rw [List.pairwise_cons] at hp
    obtain ⟨k1, k2⟩ := ih (put L s) g1 (fun x hx y hy => by have := g3 x hx; have := hp.1 y hy; omega) hp.2 (fun y hy => hv y (by simp [hy]))
    exact ⟨k1, fun p => by rw [List.foldl_cons, k2, g2, has_cons, Bool.or_assoc]⟩
/-- A span, held within all places. -/
def clamp (s : S) : S := (max s.1 0, min s.2 1000000000)
def some_ (l : List S) : List S := (l.map clamp).filter fun s => decide (s.1 < s.2)
theorem has_some (l : List S) {p : Int} (h0 : 0 ≤ p) (h1 : p < 1000000000) : has (some_ l) p = has l p := by
  rw [Bool.eq_iff_iff, has_iff, has_iff]
  constructor
  · rintro ⟨s, hs, h2, h3⟩
    simp only [some_, List.mem_filter, List.mem_map, decide_eq_true_eq] at hs
    obtain ⟨⟨t, ht, rfl⟩, _⟩ := hs
    simp only [clamp] at h2 h3
    exact ⟨t, ht, by omega, by omega⟩
  · rintro ⟨t, ht, h2, h3⟩
    refine ⟨clamp t, ?_, by simp only [clamp]; omega, by simp only [clamp]; omega⟩
    simp only [some_, List.mem_filter, List.mem_map, decide_eq_true_eq]
    exact ⟨⟨t, ht, rfl⟩, by simp only [clamp]; omega⟩
theorem some_range (l : List S) : ∀ y ∈ some_ l, 0 ≤ y.1 ∧ y.1 < y.2 ∧ y.2 ≤ 1000000000 := fun y hy => by
  simp only [some_, List.mem_filter, List.mem_map, decide_eq_true_eq] at hy
  obtain ⟨⟨t, ht, rfl⟩, h⟩ := hy
  simp only [clamp] at *
  omega
theorem of_sorted {l d : List S} (hm : ∀ s, s ∈ d ↔ s ∈ some_ l) (hs : d.Pairwise (fun x y => x.1 ≤ y.1)) : d.foldl put [] = nf (has l) := by
  obtain ⟨k1, k2⟩ := foldl_put d [] rfl (fun x hx => by cases hx) hs (fun y hy => some_range l y ((hm y).1 hy))
  refine is_nf k1 fun p h0 h1 => ?_
  rw [k2, has_nil, Bool.false_or, has_of_perm hm, has_some l h0 h1]
theorem some_nil : some_ [] = [] := rfl
theorem some_snoc (l : List S) (s : S) : some_ (l ++ [s]) = if (clamp s).1 < (clamp s).2 then some_ l ++ [clamp s] else some_ l := by
  unfold some_
  rw [List.map_append, List.filter_append]
  by_cases h : (clamp s).1 < (clamp s).2 <;> simp [h]
theorem some_length (l : List S) : (some_ l).length ≤ l.length := by
  unfold some_
  exact Nat.le_trans (List.length_filter_le _ _) (by simp)
/-- Counts. -/
def count : List S → Int
  | [] => 0
  | s :: t => s.2 - s.1 + count t
theorem count_append (a b : List S) : count (a ++ b) = count a + count b := by
  induction a with
  | nil => simp [count]
  | cons s t ih => simp [count, ih]; omega
theorem count_range {l : List S} : ∀ {e : Int}, isSet e l = true → 0 ≤ count l ∧ count l ≤ endOf e l - e := by
  induction l with
  | nil => intro e h; simp [count, endOf]
  | cons s t ih => intro e h; rw [isSet_cons] at h; have := ih h.2.2.2; simp only [count, endOf]; omega
def num (P : Int → Bool) : Nat → Int
  | 0 => 0
  | n + 1 => num P n + if P (n : Int) then 1 else 0
theorem num_sum (P Q : Int → Bool) (n : Nat) : num (fun p => P p || Q p) n + num (fun p => P p && Q p) n = num P n + num Q n := by
  induction n with
  | zero => rfl
  | succ n ih =>
    simp only [num]
    have key : ∀ (x y : Bool) (a b c d : Int), a + b = c + d → (a + if (x || y) = true then 1 else 0) + (b + if (x && y) = true then 1 else 0) = (c + if x = true then 1 else 0) + (d + if y = true then 1 else 0) := by
      intro x y a b c d h
      cases x <;> cases y <;> simp <;> omega
    exact key _ _ _ _ _ _ ih
theorem num_congr {P Q : Int → Bool} {n : Nat} (h : ∀ p, 0 ≤ p → p < (n : Int) → P p = Q p) : num P n = num Q n := by
  induction n with
  | zero => rfl
  | succ n ih =>
    simp only [num]
    rw [ih fun p h0 h1 => h p h0 (by omega), h n (by omega) (by omega)]
theorem num_none (n : Nat) : num (fun _ => false) n = 0 := by
  induction n with
  | zero => rfl
  | succ n ih => simp [num, ih]
theorem num_all (n : Nat) : num (fun _ => true) n = n := by
  induction n with
  | zero => rfl
  | succ n ih => simp [num, ih]
theorem num_span (s : S) (h0 : 0 ≤ s.1) (h1 : s.1 ≤ s.2) (n : Nat) : num (fun p => decide (s.1 ≤ p) && decide (p < s.2)) n = min (n : Int) s.2 - min (n : Int) s.1 := by
  induction n with
  | zero => simp [num]; omega
  | succ n ih =>
    simp only [num]
    rw [ih]
    by_cases c : s.1 ≤ (n : Int)
    · by_cases d : (n : Int) < s.2
      · simp [c, d]; omega
      · simp [c, d]; omega
    · simp [c]; omega
theorem count_num (l : List S) (n : Nat) (hn : (1000000000 : Int) ≤ n) : ∀ e, -1 ≤ e → isSet e l = true → count l = num (has l) n := by
  induction l with
  | nil =>
    intro e _ _
    exact (num_none n).symm
  | cons s t ih =>
    intro e he h
    rw [isSet_cons] at h
    have h1 := num_sum (fun p => decide (s.1 ≤ p) && decide (p < s.2)) (has t) n
    rw [num_span s (by omega) (by omega), ← ih s.2 (by omega) h.2.2.2] at h1
    have h2 : num (fun p => (decide (s.1 ≤ p) && decide (p < s.2)) && has t p) n = 0 := by
      rw [← num_none n]
      refine num_congr fun p _ _ => ?_
      by_cases c : p < s.2
      · rw [has_low h.2.2.2 (by omega)]; simp
      · simp [c]
    have h3 : num (fun p => (decide (s.1 ≤ p) && decide (p < s.2)) || has t p) n = num (has (s :: t)) n := num_congr fun p _ _ => (has_cons s t p).symm
    rw [h2, h3] at h1
    simp only [count]
    omega
theorem count_both {a b u m : List S} (ha : isSet (-1) a = true) (hb : isSet (-1) b = true) (hu : isSet (-1) u = true) (hm : isSet (-1) m = true)
    (h1 : ∀ p, 0 ≤ p → p < 1000000000 → has u p = (has a p || has b p)) (h2 : ∀ p, 0 ≤ p → p < 1000000000 → has m p = (has a p && has b p)) : count u + count m = count a + count b := by
  obtain ⟨n, hn⟩ : ∃ n : Nat, (n : Int) = 1000000000 := ⟨1000000000, rfl⟩
  rw [count_num a n (by omega) _ (by omega) ha, count_num b n (by omega) _ (by omega) hb, count_num u n (by omega) _ (by omega) hu, count_num m n (by omega) _ (by omega) hm, ← num_sum (has a) (has b)]
  rw [num_congr (P := has u) fun p p0 p1 => h1 p p0 (by omega), num_congr (P := has m) fun p p0 p1 => h2 p p0 (by omega)]
theorem count_not {a m : List S} (ha : isSet (-1) a = true) (hm : isSet (-1) m = true) (h2 : ∀ p, 0 ≤ p → p < 1000000000 → has m p = !has a p) : count a + count m = 1000000000 := by
  obtain ⟨n, hn⟩ : ∃ n : Nat, (n : Int) = 1000000000 := ⟨1000000000, rfl⟩
  rw [count_num a n (by omega) _ (by omega) ha, count_num m n (by omega) _ (by omega) hm, ← num_sum]
  rw [num_congr (P := fun p => has a p || has m p) (Q := fun _ => true) fun p p0 p1 => by rw [h2 p p0 (by omega)]; simp,
    num_congr (P := fun p => has a p && has m p) (Q := fun _ => false) fun p p0 p1 => by rw [h2 p p0 (by omega)]; simp, num_none, num_all]
  omega
end Go.Proofs.YtgmkagddfbfolaaDoor.Span
