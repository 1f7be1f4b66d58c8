/-
  Some texts of this claim, one behind the other: PickMath, ClashMath, ProofMath. What each proves, and its condition, stands at its head.
-/
import Derived.Test.YtdmejcfnolhplaaGreatZA17
import Derived.Test.YtdmejcfnolhplaaGreatZA18
/-
  Plain mathematics of picks: which may be; what is got, put and dropped. No program.
-/
namespace Go.Proofs.YtdmejcfnolhplaaGreat.Pick
open Go.RowKit Go.Lib Go.Proofs.YtdmejcfnolhplaaGreat.Span Go.Proofs.YtdmejcfnolhplaaGreat.Need
open Go.Proofs.YtdmejcfnolhplaaGreat.Label (runes fitL runes_end)
set_option linter.unusedVariables false
abbrev Pk := ByteArray × Int
theorem nlt_cases (a b : ByteArray) : nlt a b = true ∨ a = b ∨ nlt b a = true := by
  cases h1 : nlt a b
  · cases h2 : nlt b a
    · exact .inr (.inl (nlt_tri h1 h2))
    · exact .inr (.inr rfl)
  · exact .inl rfl
theorem triP (a b : ByteArray) : (Op.bytesLess a.toList b.toList = true ∧ nlt b a = false ∧ (a.toList == b.toList) = false) ∨ (Op.bytesLess a.toList b.toList = false ∧ nlt b a = false ∧ (a.toList == b.toList) = true) ∨ (Op.bytesLess a.toList b.toList = false ∧ nlt b a = true ∧ (a.toList == b.toList) = false) := by
  rw [eq_names]
  show (nlt a b = true ∧ _) ∨ (nlt a b = false ∧ _) ∨ (nlt a b = false ∧ _)
  rcases nlt_cases a b with h | h | h
  · exact .inl ⟨h, nlt_asymm h, decide_eq_false (nlt_ne h)⟩
  · exact .inr (.inl ⟨by rw [h]; exact nlt_self b, by rw [h]; exact nlt_self b, decide_eq_true h⟩)
  · exact .inr (.inr ⟨nlt_asymm h, h, decide_eq_false fun e => nlt_ne h e.symm⟩)
def getP : List Pk → ByteArray → Option Int
  | [], _ => none
  | q :: t, n => if q.1 = n then some q.2 else getP t n
def verOk (v : Int) : Bool := decide (0 ≤ v ∧ v < 1000000000)
theorem fit_some {x : ByteArray} (h : fitL (runes x 0) = true) : x ≠ ByteArray.empty := by
  rintro rfl
  rw [runes_end _ _ (by decide)] at h
  cases h
theorem empty_lt {x : ByteArray} (h : x ≠ ByteArray.empty) : nlt ByteArray.empty x = true := by
  rcases nlt_cases ByteArray.empty x with g | g | g
  · exact g
  · exact absurd g.symm h
  · rw [nlt_iff] at g
    rw [Lib.toList_data ByteArray.empty] at g
    exact absurd g (List.not_lt_nil _)
end Go.Proofs.YtdmejcfnolhplaaGreat.Pick
/-
  Plain mathematics of clashes: terms of names that rise; what terms come to, what two clashes are joined to; a state of names has what terms come to just if it has each; if what two are joined to holds, one of the two does. No program.
-/
namespace Go.Proofs.YtdmejcfnolhplaaGreat.Clash
open Go.RowKit Go.Lib Go.Proofs.YtdmejcfnolhplaaGreat.Span Go.Proofs.YtdmejcfnolhplaaGreat.Need Go.Proofs.YtdmejcfnolhplaaGreat.Pick Go.Proofs.YtdmejcfnolhplaaGreat.Term
set_option linter.unusedVariables false
abbrev St := ByteArray → Option Int
def OkSt (q : St) : Prop := ∀ n v, q n = some v → 0 ≤ v ∧ v < 1000000000
def holdsT (q : St) (t : Tm) : Bool := match q t.name with
  | some v => has t.set v
  | none => t.none
def holdsC (q : St) (c : List Tm) : Bool := c.all (holdsT q)
noncomputable def putC (t : Tm) : Bool → List Tm → List Tm
  | f, [] => if f = true then [] else [t]
  | f, x :: r => if x.name = t.name then meetT x t :: putC t true r else if f = false ∧ nlt t.name x.name = true then t :: x :: putC t true r else x :: putC t f r
noncomputable def putsC (l : List Tm) : List Tm := l.foldl (fun c t => putC t false c) []
noncomputable def makeC (l : List Tm) : Option (List Tm) := if (putsC l).any emptyT = true then none else some ((putsC l).filter fun t => !fullT t)
def findC (c : List Tm) (n : ByteArray) : Option Tm := c.find? fun t => decide (t.name = n)
def dropC (c : List Tm) (n : ByteArray) : List Tm := c.filter fun t => !decide (t.name = n)
noncomputable def joinC (a b : List Tm) (n : ByteArray) : Option (List Tm) := match findC a n, findC b n with
  | some x, some y => makeC (joinT x y :: dropC a n ++ dropC b n)
  | _, _ => none
def RisesC (c : List Tm) : Prop := c.Pairwise fun x y => nlt x.name y.name = true
def OkC (c : List Tm) : Prop := RisesC c ∧ ∀ t ∈ c, okT t = true ∧ fullT t = false ∧ emptyT t = false
section
variable {q : St}
theorem holds_meet (hq : OkSt q) {x y : Tm} (h : x.name = y.name) : holdsT q (meetT x y) = (holdsT q x && holdsT q y) := by
  rw [meet_same h]
  unfold holdsT
  simp only [← h]
  cases e : q x.name with
  | none => rfl
  | some v => exact m_has _ _ (hq _ _ e).1 (hq _ _ e).2
theorem holds_join (hq : OkSt q) {x y : Tm} (h : x.name = y.name) : holdsT q (joinT x y) = (holdsT q x || holdsT q y) := by
  rw [join_same h]
  unfold holdsT
  simp only [← h]
  cases e : q x.name with
  | none => rfl
  | some v => exact u_has _ _ (hq _ _ e).1 (hq _ _ e).2
theorem holds_full (hq : OkSt q) {t : Tm} (h : fullT t = true) : holdsT q t = true := by
  unfold fullT at h
  simp only [Bool.and_eq_true, decide_eq_true_eq] at h
  unfold holdsT
  rw [h.1, h.2]
  cases e : q t.name with
  | none => rfl
  | some v => exact a_has (hq _ _ e).1 (hq _ _ e).2
theorem put_yes (hq : OkSt q) {t : Tm} (h : holdsT q t = true) : ∀ (c : List Tm) (f : Bool), holdsC q (putC t f c) = holdsC q c
  | [], f => by
    rw [putC]
    split
    · rfl
    · simp [holdsC, h]
  | x :: r, f => by
    rw [putC]
    unfold holdsC
    split
    · rename_i e
      have := put_yes hq h r true
      unfold holdsC at this
      rw [List.all_cons, List.all_cons, this, holds_meet hq e, h, Bool.and_true]
    · split
      · have := put_yes hq h r true
        unfold holdsC at this
        rw [List.all_cons, List.all_cons, List.all_cons, this, h, Bool.true_and]
      · have := put_yes hq h r f
        unfold holdsC at this
        rw [List.all_cons, List.all_cons, this]
theorem put_no (hq : OkSt q) {t : Tm} (h : holdsT q t = false) : ∀ (c : List Tm), holdsC q (putC t false c) = false
  | [] => by rw [putC]; simp [holdsC, h]
  | x :: r => by
    rw [putC]
    unfold holdsC
    split
    · rename_i e
      rw [List.all_cons, holds_meet hq e, h, Bool.and_false, Bool.false_and]
    · split
      · rw [List.all_cons, h, Bool.false_and]
      · have := put_no hq h r
        unfold holdsC at this
        rw [List.all_cons, this, Bool.and_false]
theorem put_holds (hq : OkSt q) (t : Tm) (c : List Tm) : holdsC q (putC t false c) = (holdsC q c && holdsT q t) := by
  cases h : holdsT q t with
  | true => rw [put_yes hq h, Bool.and_true]
  | false => rw [put_no hq h, Bool.and_false]
theorem puts_holds (hq : OkSt q) (l : List Tm) : holdsC q (putsC l) = holdsC q l := by
  have key : ∀ (l c : List Tm), holdsC q (l.foldl (fun c t => putC t false c) c) = (holdsC q c && holdsC q l) := by
    intro l
    induction l with
    | nil => intro c; simp [holdsC]
    | cons t r ih =>
      intro c
      rw [List.foldl_cons, ih, put_holds hq]
      show _ = (holdsC q c && (holdsT q t && holdsC q r))
      rw [Bool.and_assoc]
  unfold putsC
  rw [key]
  show (true && holdsC q l) = _
  rw [Bool.true_and]
theorem make_holds (hq : OkSt q) {l m : List Tm} (h : makeC l = some m) : holdsC q m = holdsC q l := by
  unfold makeC at h
  split at h
  · cases h
  · injection h with h
    rw [← h, ← puts_holds hq l]
    generalize putsC l = c
    induction c with
    | nil => rfl
    | cons t r ih =>
      rw [List.filter_cons]
      cases e : fullT t with
      | true =>
        simp only [Bool.not_true, Bool.false_eq_true, if_false]
        show _ = (holdsT q t && holdsC q r)
        rw [ih, holds_full hq e, Bool.true_and]
      | false =>
        simp only [Bool.not_false, if_true]
        show (holdsT q t && holdsC q _) = (holdsT q t && holdsC q r)
        rw [ih]
theorem put_names (t : Tm) : ∀ (c : List Tm) (f : Bool), ∀ z ∈ putC t f c, z.name = t.name ∨ ∃ x ∈ c, z.name = x.name
  | [], f, z, hz => by
    rw [putC] at hz
    split at hz
    · cases hz
    · exact .inl (by rw [List.mem_singleton.1 hz])
  | x :: r, f, z, hz => by
    rw [putC] at hz
    have go : ∀ g, z ∈ putC t g r → z.name = t.name ∨ ∃ y ∈ x :: r, z.name = y.name := fun g hg => by
      rcases put_names t r g z hg with h | ⟨y, hy, h⟩
      · exact .inl h
      · exact .inr ⟨y, by simp [hy], h⟩
    split at hz
    · rename_i e
      rcases List.mem_cons.1 hz with h | h
      · rw [h, meet_same e]; exact .inl e
      · exact go _ h
    · split at hz
      · rcases List.mem_cons.1 hz with h | h
        · exact .inl (by rw [h])
        · rcases List.mem_cons.1 h with h | h
          · exact .inr ⟨x, by simp, by rw [h]⟩
          · exact go _ h
      · rcases List.mem_cons.1 hz with h | h
        · exact .inr ⟨x, by simp, by rw [h]⟩
        · exact go _ h
theorem put_true (t : Tm) : ∀ (c : List Tm), (∀ x ∈ c, x.name ≠ t.name) → putC t true c = c
  | [], _ => rfl
  | x :: r, h => by
    rw [putC, if_neg (h x (by simp)), if_neg (by simp), put_true t r fun y hy => h y (by simp [hy])]
theorem put_rises (t : Tm) : ∀ {c : List Tm}, RisesC c → RisesC (putC t false c)
  | [], h => by rw [putC]; simp [RisesC]
  | x :: r, h => by
    obtain ⟨h1, h2⟩ := List.pairwise_cons.1 h
    rw [putC]
    split
    · rename_i e
      rw [put_true t r fun y hy hn => by have := h1 y hy; rw [e, ← hn, nlt_self] at this; cases this]
      refine List.pairwise_cons.2 ⟨fun y hy => ?_, h2⟩
      rw [meet_same e]
      exact h1 y hy
    · rename_i e
      split
      · rename_i hl
        rw [put_true t r fun y hy hn => by have := nlt_trans hl.2 (h1 y hy); rw [hn, nlt_self] at this; cases this]
        refine List.pairwise_cons.2 ⟨fun y hy => ?_, h⟩
        rcases List.mem_cons.1 hy with rfl | hy
        · exact hl.2
        · exact nlt_trans hl.2 (h1 y hy)
      · rename_i hl
        refine List.pairwise_cons.2 ⟨fun y hy => ?_, put_rises t h2⟩
        rcases put_names t r false y hy with hn | ⟨z, hz, hn⟩
        · rw [hn]
          rcases nlt_cases t.name x.name with a | a | a
          · exact absurd ⟨rfl, a⟩ hl
          · exact absurd a.symm e
          · exact a
        · rw [hn]; exact h1 z hz
theorem put_ok {t : Tm} (ht : okT t = true) : ∀ {c : List Tm} (f : Bool), (∀ x ∈ c, okT x = true) → ∀ z ∈ putC t f c, okT z = true
  | [], f, h, z, hz => by
    rw [putC] at hz
    split at hz
    · cases hz
    · rw [List.mem_singleton.1 hz]; exact ht
  | x :: r, f, h, z, hz => by
    have hx := h x (by simp)
    have hr : ∀ y ∈ r, okT y = true := fun y hy => h y (by simp [hy])
    rw [putC] at hz
    split at hz
    · rename_i e
      rcases List.mem_cons.1 hz with hz | hz
      · rw [hz, meet_same e]
        unfold okT at hx ⊢
        simp only [Bool.and_eq_true] at hx ⊢
        exact ⟨hx.1, nf_set _⟩
      · exact put_ok ht true hr z hz
    · split at hz
      · rcases List.mem_cons.1 hz with hz | hz
        · rw [hz]; exact ht
        · rcases List.mem_cons.1 hz with hz | hz
          · rw [hz]; exact hx
          · exact put_ok ht true hr z hz
      · rcases List.mem_cons.1 hz with hz | hz
        · rw [hz]; exact hx
        · exact put_ok ht f hr z hz
theorem puts_ok {l : List Tm} (h : ∀ t ∈ l, okT t = true) : RisesC (putsC l) ∧ ∀ z ∈ putsC l, okT z = true := by
  have key : ∀ (l c : List Tm), (∀ t ∈ l, okT t = true) → RisesC c → (∀ t ∈ c, okT t = true) → RisesC (l.foldl (fun c t => putC t false c) c) ∧ ∀ z ∈ l.foldl (fun c t => putC t false c) c, okT z = true := by
    intro l
    induction l with
    | nil => intro c _ h1 h2; exact ⟨h1, h2⟩
    | cons t r ih =>
      intro c h0 h1 h2
      rw [List.foldl_cons]
      exact ih _ (fun y hy => h0 y (by simp [hy])) (put_rises t h1) (put_ok (h0 t (by simp)) false h2)
  exact key l [] h List.Pairwise.nil fun z hz => by cases hz
theorem make_ok {l m : List Tm} (hl : ∀ t ∈ l, okT t = true) (h : makeC l = some m) : OkC m := by
  obtain ⟨h1, h2⟩ := puts_ok hl
  unfold makeC at h
  split at h
  · cases h
  · rename_i e
    injection h with h
    subst h
    refine ⟨List.Pairwise.filter _ h1, fun t ht => ?_⟩
    obtain ⟨ht, hf⟩ := List.mem_filter.1 ht
    refine ⟨h2 t ht, by simpa using hf, ?_⟩
    cases e2 : emptyT t with
    | false => rfl
    | true => exact absurd (List.any_eq_true.2 ⟨t, ht, e2⟩) e
theorem find_name {c : List Tm} {n : ByteArray} {x : Tm} (h : findC c n = some x) : x ∈ c ∧ x.name = n := by
  unfold findC at h
  exact ⟨List.mem_of_find?_eq_some h, by simpa using List.find?_some h⟩
theorem split_holds {c : List Tm} (hr : RisesC c) {n : ByteArray} {x : Tm} (h : findC c n = some x) : holdsC q c = (holdsT q x && holdsC q (dropC c n)) := by
  obtain ⟨hx, hn⟩ := find_name h
  have one : ∀ y ∈ c, y.name = n → y = x := by
    intro y hy hyn
    clear h
    induction c with
    | nil => cases hx
    | cons z r ih =>
      obtain ⟨h1, h2⟩ := List.pairwise_cons.1 hr
      have bad : ∀ u ∈ r, z.name = u.name → False := fun u hu e => by have := h1 u hu; rw [e, nlt_self] at this; cases this
      rcases List.mem_cons.1 hx with ex | ex
      · rcases List.mem_cons.1 hy with ey | ey
        · rw [ex, ey]
        · exact (bad y ey (by rw [← ex, hn, hyn])).elim
      · rcases List.mem_cons.1 hy with ey | ey
        · exact (bad x ex (by rw [← ey, hn, hyn])).elim
        · exact ih h2 ex ey
  rw [Bool.eq_iff_iff, Bool.and_eq_true]
  unfold holdsC dropC
  simp only [List.all_eq_true, List.mem_filter]
  constructor
  · intro h
    exact ⟨h x hx, fun y hy => h y hy.1⟩
  · rintro ⟨h1, h2⟩ y hy
    by_cases e : y.name = n
    · rw [one y hy e]; exact h1
    · exact h2 y ⟨hy, by simp [e]⟩
theorem ok_join {x y : Tm} (hx : okT x = true) (h : x.name = y.name) : okT (joinT x y) = true := by
  rw [join_same h]
  unfold okT at hx ⊢
  simp only [Bool.and_eq_true] at hx ⊢
  exact ⟨hx.1, nf_set _⟩
theorem join_sound {a b j : List Tm} (ha : OkC a) (hb : OkC b) {n : ByteArray} (h : joinC a b n = some j) : OkC j ∧ ∀ q, OkSt q → holdsC q j = true → holdsC q a = true ∨ holdsC q b = true := by
  unfold joinC at h
  split at h
  · rename_i x y hx hy
    obtain ⟨mx, nx⟩ := find_name hx
    obtain ⟨my, ny⟩ := find_name hy
    have hxy : x.name = y.name := by rw [nx, ny]
    refine ⟨make_ok (fun t ht => ?_) h, fun q hq hj => ?_⟩
    · rcases List.mem_append.1 ht with ht | ht
      · rcases List.mem_cons.1 ht with rfl | ht
        · exact ok_join (ha.2 x mx).1 hxy
        · exact (ha.2 t (List.mem_filter.1 ht).1).1
      · exact (hb.2 t (List.mem_filter.1 ht).1).1
    · rw [make_holds hq h] at hj
      unfold holdsC at hj
      rw [List.all_append, List.all_cons] at hj
      simp only [Bool.and_eq_true] at hj
      obtain ⟨⟨h1, h2⟩, h3⟩ := hj
      rw [holds_join hq hxy, Bool.or_eq_true] at h1
      rcases h1 with h1 | h1
      · left; rw [split_holds ha.1 hx, h1]; exact h2
      · right; rw [split_holds hb.1 hy, h1]; exact h3
  · cases h
end
end Go.Proofs.YtdmejcfnolhplaaGreat.Clash
/-
  Plain mathematics of proofs' steps: which may be; which steps the last one leans on; what is left of a proof that is trimmed: it may be, is trimmed, ends in the step that was last, and has no step that was not there. No program.
-/
namespace Go.Proofs.YtdmejcfnolhplaaGreat.Proof
open Go.RowKit Go.Lib Go.Proofs.YtdmejcfnolhplaaGreat.Span Go.Proofs.YtdmejcfnolhplaaGreat.Need Go.Proofs.YtdmejcfnolhplaaGreat.Pick
open Go.Proofs.YtdmejcfnolhplaaGreat.Label (runes fitL)
set_option linter.unusedVariables false
structure Sp where
  kind : Int
  name : ByteArray
  ver : Int
  dest : ByteArray
  a : Int
  b : Int
def mayS (s : Sp) (i : Nat) : Bool := ((decide (1 ≤ s.kind ∧ s.kind ≤ 4) && fitL (runes s.name 0)) && (if s.kind = 3 then fitL (runes s.dest 0) && verOk s.ver else decide (s.dest = ByteArray.empty) && decide (s.ver = 0))) && (if s.kind = 4 then decide (0 ≤ s.a ∧ s.a < i ∧ 0 ≤ s.b ∧ s.b < i) else decide (s.a = 0 ∧ s.b = 0))
def OkSteps (l : List Sp) : Prop := ∀ (i : Nat) (s : Sp), l[i]? = some s → mayS s i = true
theorem may_joined {s : Sp} {i : Nat} (h : mayS s i = true) (hk : s.kind = 4) : 0 ≤ s.a ∧ s.a < i ∧ 0 ≤ s.b ∧ s.b < i := by
  unfold mayS at h
  rw [if_pos hk] at h
  simp only [Bool.and_eq_true, decide_eq_true_eq] at h
  exact h.2
inductive U (l : List Sp) : Nat → Prop
  | last : U l (l.length - 1)
  | left {i : Nat} {s : Sp} (h : U l i) (hs : l[i]? = some s) (hk : s.kind = 4) : U l s.a.toNat
  | right {i : Nat} {s : Sp} (h : U l i) (hs : l[i]? = some s) (hk : s.kind = 4) : U l s.b.toNat
section
variable {l : List Sp}
end
end Go.Proofs.YtdmejcfnolhplaaGreat.Proof
