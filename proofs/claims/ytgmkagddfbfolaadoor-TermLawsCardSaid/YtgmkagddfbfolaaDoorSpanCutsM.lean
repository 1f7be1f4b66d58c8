/-
  Cuts of sets: places that rise, between which nothing changes. No condition. Of no program.
-/
import Derived.Test.YtgmkagddfbfolaaDoorSpanRefPut
namespace Go.Proofs.YtgmkagddfbfolaaDoor.Span
set_option linter.unusedVariables false
theorem mem_ins (l : List Int) (p x : Int) : x ∈ ins l p ↔ x = p ∨ x ∈ l := by
  induction l with
  | nil => simp [ins]
  | cons y t ih =>
    unfold ins
    split
    · simp
    · split
      · rename_i h; subst h; simp
      · simp only [List.mem_cons, ih]; constructor
        · rintro (h | h | h) <;> simp [h]
        · rintro (h | h | h) <;> simp [h]
theorem ins_rise (l : List Int) (p : Int) (h : l.Pairwise (· < ·)) : (ins l p).Pairwise (· < ·) := by
  induction l with
  | nil => simp [ins]
  | cons y t ih =>
    rw [List.pairwise_cons] at h
    unfold ins
    split
    · rename_i c
      rw [List.pairwise_cons, List.pairwise_cons]
      refine ⟨fun z hz => ?_, h⟩
      rcases List.mem_cons.1 hz with rfl | hz
      · exact c
      · have := h.1 z hz; omega
    · split
      · rename_i c; subst c; rw [List.pairwise_cons]; exact h
      · rw [List.pairwise_cons]
        refine ⟨fun z hz => ?_, ih h.2⟩
        rcases (mem_ins t p z).1 hz with rfl | hz
        · omega
        · exact h.1 z hz
theorem ins_len (l : List Int) (p : Int) : (ins l p).length ≤ l.length + 1 := by
  induction l with
  | nil => simp [ins]
  | cons y t ih =>
    unfold ins
    split
    · simp
    · split <;> simp; omega
def cut2 (l : List Int) (s : S) : List Int := ins (ins l (clP s.1)) (clP s.2)
theorem cut2_len (l : List Int) (s : S) : (cut2 l s).length ≤ l.length + 2 := by
  unfold cut2
  have h1 := ins_len (ins l (clP s.1)) (clP s.2)
  have h2 := ins_len l (clP s.1)
  omega
theorem fold2_len (a : List S) : ∀ l : List Int, (a.foldl cut2 l).length ≤ l.length + 2 * a.length := by
  induction a with
  | nil => intro l; simp
  | cons s t ih => intro l; have h1 := ih (cut2 l s); have h2 := cut2_len l s; simp only [List.foldl_cons, List.length_cons]; omega
def cutsS (a b : List S) : List Int := b.foldl cut2 (a.foldl cut2 [0, 1000000000])
/-- What cuts are. -/
def Cuts (l : List Int) (a : List S) : Prop := l.Pairwise (· < ·) ∧ (∀ x ∈ l, 0 ≤ x ∧ x ≤ 1000000000) ∧ (0 : Int) ∈ l ∧ (1000000000 : Int) ∈ l ∧ ∀ s ∈ a, clP s.1 ∈ l ∧ clP s.2 ∈ l
theorem Cuts.step {l : List Int} {a : List S} (h : Cuts l a) (s : S) : Cuts (cut2 l s) (a ++ [s]) := by
  obtain ⟨h1, h2, h3, h4, h5⟩ := h
  unfold cut2
  refine ⟨ins_rise _ _ (ins_rise _ _ h1), fun x hx => ?_, ?_, ?_, fun t ht => ?_⟩
  · rw [mem_ins, mem_ins] at hx
    rcases hx with rfl | rfl | hx
    · unfold clP; omega
    · unfold clP; omega
    · exact h2 x hx
  · rw [mem_ins, mem_ins]; simp [h3]
  · rw [mem_ins, mem_ins]; simp [h4]
  · rw [mem_ins, mem_ins, mem_ins, mem_ins]
    rcases List.mem_append.1 ht with ht | ht
    · have := h5 t ht; simp [this]
    · rw [List.mem_singleton.1 ht]; simp
theorem Cuts.fold (b : List S) : ∀ {l : List Int} {a : List S}, Cuts l a → Cuts (b.foldl cut2 l) (a ++ b) := by
  induction b with
  | nil => intro l a h; simpa using h
  | cons s t ih => intro l a h; have := ih (h.step s); rw [List.append_assoc] at this; exact this
theorem cuts_start : Cuts [0, 1000000000] [] := by
  refine ⟨by simp, fun x hx => ?_, by simp, by simp, fun s hs => by cases hs⟩
  simp only [List.mem_cons, List.not_mem_nil, or_false] at hx
  omega
theorem cutsS_ok (a b : List S) : Cuts (cutsS a b) (a ++ b) := by
  have h := Cuts.fold b (Cuts.fold a cuts_start)
  exact h
theorem Cuts.mono {l : List Int} {a b : List S} (h : Cuts l b) (hs : ∀ s ∈ a, s ∈ b) : Cuts l a := ⟨h.1, h.2.1, h.2.2.1, h.2.2.2.1, fun s hs' => h.2.2.2.2 s (hs s hs')⟩
/-- Between two cuts there is none. -/
theorem Cuts.between {l : List Int} {a : List S} (h : Cuts l a) {i : Nat} {lo hi : Int} (h1 : l[i]? = some lo) (h2 : l[i + 1]? = some hi) :
    0 ≤ lo ∧ lo < hi ∧ hi ≤ 1000000000 ∧ ∀ c ∈ l, c ≤ lo ∨ hi ≤ c := by
  obtain ⟨i1, e1⟩ := List.getElem?_eq_some_iff.1 h1
  obtain ⟨i2, e2⟩ := List.getElem?_eq_some_iff.1 h2
  have hp := List.pairwise_iff_getElem.1 h.1
  have r1 := h.2.1 lo (List.mem_of_getElem? h1)
  have r2 := h.2.1 hi (List.mem_of_getElem? h2)
  refine ⟨r1.1, ?_, r2.2, fun c hc => ?_⟩
  · have := hp i (i + 1) i1 i2 (by omega); omega
  · obtain ⟨j, j1, rfl⟩ := List.getElem_of_mem hc
    rcases Nat.lt_trichotomy j i with hj | hj | hj
    · have := hp j i j1 i1 hj; left; omega
    · subst hj; left; omega
    · rcases Nat.lt_or_ge j (i + 2) with hk | hk
      · have : j = i + 1 := by omega
        subst this; right; omega
      · have := hp (i + 1) j i2 j1 (by omega); right; omega
theorem Cuts.first {l : List Int} {a : List S} (h : Cuts l a) : l[0]? = some 0 := by
  obtain ⟨j, j1, e⟩ := List.getElem_of_mem h.2.2.1
  have hp := List.pairwise_iff_getElem.1 h.1
  rcases Nat.eq_zero_or_pos j with hj | hj
  · subst hj; rw [List.getElem?_eq_getElem j1, e]
  · have h0 : 0 < l.length := by omega
    have := hp 0 j h0 j1 hj
    have r := h.2.1 l[0] (List.getElem_mem h0)
    omega
theorem Cuts.last {l : List Int} {a : List S} (h : Cuts l a) {i : Nat} {lo : Int} (hi : i + 1 = l.length) (h1 : l[i]? = some lo) : lo = 1000000000 := by
  obtain ⟨j, j1, e⟩ := List.getElem_of_mem h.2.2.2.1
  obtain ⟨i1, e1⟩ := List.getElem?_eq_some_iff.1 h1
  have hp := List.pairwise_iff_getElem.1 h.1
  have r := h.2.1 lo (List.mem_of_getElem? h1)
  rcases Nat.lt_or_ge j i with hj | hj
  · have := hp j i j1 i1 hj; omega
  · have : j = i := by omega
    subst this; omega
theorem Cuts.two {l : List Int} {a : List S} (h : Cuts l a) : 2 ≤ l.length := by
  have h0 := h.first
  obtain ⟨i1, e1⟩ := List.getElem?_eq_some_iff.1 h0
  rcases Nat.lt_or_ge l.length 2 with c | c
  · have := h.last (i := 0) (by omega) h0; omega
  · exact c
/-- .. so nothing changes between. -/
theorem Cuts.same {l : List Int} {a : List S} (h : Cuts l a) {i : Nat} {lo hi q : Int} (h1 : l[i]? = some lo) (h2 : l[i + 1]? = some hi) (q0 : lo ≤ q) (q1 : q < hi) : has a q = has a lo := by
  obtain ⟨b0, b1, b2, b3⟩ := h.between h1 h2
  rw [Bool.eq_iff_iff, has_iff, has_iff]
  have key : ∀ s ∈ a, (s.1 ≤ q ∧ q < s.2) ↔ (s.1 ≤ lo ∧ lo < s.2) := fun s hs => by
    obtain ⟨c1, c2⟩ := h.2.2.2.2 s hs
    have k1 := b3 _ c1
    have k2 := b3 _ c2
    unfold clP at k1 k2
    omega
  constructor
  · rintro ⟨s, hs, hx⟩; exact ⟨s, hs, (key s hs).1 hx⟩
  · rintro ⟨s, hs, hx⟩; exact ⟨s, hs, (key s hs).2 hx⟩
theorem put_touch {P : Int → Bool} {lo hi : Int} {a : List S} {t : S} (h : nfTo P lo = a ++ [t]) (ht : t.2 = lo) (hh : lo < hi) : put (nfTo P lo) (lo, hi) = a ++ [(t.1, hi)] := by
  rw [h, put_snoc, if_neg (by simp only []; omega)]
  congr 2
  exact Prod.ext rfl (by simp only []; omega)
theorem put_apart {P : Int → Bool} {lo hi : Int} {a : List S} {t : S} (h : nfTo P lo = a ++ [t]) (ht : ¬ t.2 = lo) : put (nfTo P lo) (lo, hi) = nfTo P lo ++ [(lo, hi)] := by
  have := nfTo_low (P := P) (n := lo) t (by rw [h]; simp)
  rw [h, put_snoc, if_pos (by simp only []; omega)]
end Go.Proofs.YtgmkagddfbfolaaDoor.Span
