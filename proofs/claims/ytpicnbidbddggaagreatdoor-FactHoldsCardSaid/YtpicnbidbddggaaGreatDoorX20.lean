/-
  Some texts of this claim, one behind the other: PickMath, ClashMath, ProofMath, PickCells, PickRef, PickFidx. What each proves, and its condition, stands at its head.
-/
import Derived.Test.YtpicnbidbddggaaGreatDoorX17
import Derived.Test.YtpicnbidbddggaaGreatDoorX3
import Derived.Test.YtpicnbidbddggaaGreatDoorX1
import Derived.Test.YtpicnbidbddggaaGreatDoorX15
import Derived.Test.YtpicnbidbddggaaGreatDoorChecked
import Derived.Laws.Cover1
/-
  Plain mathematics of picks: which may be; what is got, put and dropped. No program.
-/
namespace Go.Proofs.YtpicnbidbddggaaGreatDoor.Pick
open Go.RowKit Go.Lib Go.Proofs.YtpicnbidbddggaaGreatDoor.Span Go.Proofs.YtpicnbidbddggaaGreatDoor.Need
open Go.Proofs.YtpicnbidbddggaaGreatDoor.Label (runes fitL runes_end)
set_option linter.unusedVariables false
abbrev Pk := ByteArray × Int
theorem nlt_cases (a b : ByteArray) : nlt a b = true ∨ a = b ∨ nlt b a = true := by
  cases h1 : nlt a b
  · cases h2 : nlt b a
    · exact .inr (.inl (nlt_tri h1 h2))
    · exact .inr (.inr rfl)
  · exact .inl rfl
theorem triP (a b : ByteArray) : (Op.bytesLess a.toList b.toList = true ∧ nlt b a = false ∧ (a.toList == b.toList) = false) ∨ (Op.bytesLess a.toList b.toList = false ∧ nlt b a = false ∧ (a.toList == b.toList) = true) ∨ (Op.bytesLess a.toList b.toList = false ∧ nlt b a = true ∧ (a.toList == b.toList) = false) := by
  rw [eq_names]
  show (nlt a b = true ∧ _) ∨ (nlt a b = false ∧ _) ∨ (nlt a b = false ∧ _)
  rcases nlt_cases a b with h | h | h
  · exact .inl ⟨h, nlt_asymm h, decide_eq_false (nlt_ne h)⟩
  · exact .inr (.inl ⟨by rw [h]; exact nlt_self b, by rw [h]; exact nlt_self b, decide_eq_true h⟩)
  · exact .inr (.inr ⟨nlt_asymm h, h, decide_eq_false fun e => nlt_ne h e.symm⟩)
def RisesP (l : List Pk) : Prop := l.Pairwise fun x y => nlt x.1 y.1 = true
def getP : List Pk → ByteArray → Option Int
  | [], _ => none
  | q :: t, n => if q.1 = n then some q.2 else getP t n
theorem getP_none {l : List Pk} {n : ByteArray} (h : ∀ q ∈ l, q.1 ≠ n) : getP l n = none := by
  induction l with
  | nil => rfl
  | cons x t ih => rw [getP, if_neg (h x (by simp))]; exact ih fun q hq => h q (by simp [hq])
theorem getP_in {l : List Pk} {n : ByteArray} {v : Int} (h : getP l n = some v) : (n, v) ∈ l := by
  induction l with
  | nil => cases h
  | cons x t ih =>
    rw [getP] at h
    split at h
    · rename_i e
      injection h with h
      subst e h
      simp
    · exact List.mem_cons_of_mem _ (ih h)
theorem getP_mem {l : List Pk} (hr : RisesP l) {q : Pk} (hq : q ∈ l) : getP l q.1 = some q.2 := by
  induction l with
  | nil => cases hq
  | cons x t ih =>
    obtain ⟨h1, h2⟩ := List.pairwise_cons.1 hr
    rcases List.mem_cons.1 hq with rfl | hq
    · rw [getP, if_pos rfl]
    · rw [getP, if_neg (nlt_ne (h1 q hq)), ih h2 hq]
theorem getP_drop {l : List Pk} {n : ByteArray} {i : Nat} {q : Pk} (h : l[i]? = some q) : getP (l.drop i) n = if q.1 = n then some q.2 else getP (l.drop (i + 1)) n := by
  obtain ⟨hi, e⟩ := List.getElem?_eq_some_iff.1 h
  rw [List.drop_eq_getElem_cons hi, e]
  rfl
def insP (n : Pk) : Bool → List Pk → List Pk
  | i, [] => if i = true then [] else [n]
  | i, x :: t => if i = false ∧ nlt n.1 x.1 = true then n :: x :: insP n true t else x :: insP n i t
def verOk (v : Int) : Bool := decide (0 ≤ v ∧ v < 1000000000)
theorem verOk_iff {v : Int} : verOk v = true ↔ 0 ≤ v ∧ v < 1000000000 := by unfold verOk; simp
def okQ : ByteArray → List Pk → Bool
  | _, [] => true
  | a, q :: t => (nlt a q.1 && (fitL (runes q.1 0) && verOk q.2)) && okQ q.1 t
def okP (l : List Pk) : Bool := okQ ByteArray.empty l
theorem okQ_drop {l : List Pk} {a : ByteArray} {i : Nat} {q : Pk} (h : l[i]? = some q) : okQ a (l.drop i) = ((nlt a q.1 && (fitL (runes q.1 0) && verOk q.2)) && okQ q.1 (l.drop (i + 1))) := by
  obtain ⟨hi, e⟩ := List.getElem?_eq_some_iff.1 h
  rw [List.drop_eq_getElem_cons hi, e]
  rfl
theorem okQ_all {l : List Pk} : ∀ {a : ByteArray}, okQ a l = true → ∀ q ∈ l, nlt a q.1 = true ∧ fitL (runes q.1 0) = true ∧ verOk q.2 = true := by
  induction l with
  | nil => intro a _ q hq; cases hq
  | cons x t ih =>
    intro a h q hq
    simp only [okQ, Bool.and_eq_true] at h
    obtain ⟨⟨h1, h2, h3⟩, h5⟩ := h
    rcases List.mem_cons.1 hq with rfl | hq
    · exact ⟨h1, h2, h3⟩
    · obtain ⟨g1, g2⟩ := ih h5 q hq
      exact ⟨nlt_trans h1 g1, g2⟩
theorem okQ_rises {l : List Pk} : ∀ {a : ByteArray}, okQ a l = true → RisesP l := by
  induction l with
  | nil => intro a _; exact List.Pairwise.nil
  | cons x t ih =>
    intro a h
    simp only [okQ, Bool.and_eq_true] at h
    exact List.pairwise_cons.2 ⟨fun q hq => (okQ_all h.2 q hq).1, ih h.2⟩
theorem okQ_of {l : List Pk} : ∀ {a : ByteArray}, RisesP l → (∀ q ∈ l, nlt a q.1 = true) → (∀ q ∈ l, fitL (runes q.1 0) = true ∧ verOk q.2 = true) → okQ a l = true := by
  induction l with
  | nil => intro a _ _ _; rfl
  | cons x t ih =>
    intro a hr ha hf
    obtain ⟨h1, h2⟩ := List.pairwise_cons.1 hr
    simp only [okQ, Bool.and_eq_true]
    exact ⟨⟨ha x (by simp), hf x (by simp)⟩, ih h2 h1 fun q hq => hf q (by simp [hq])⟩
theorem fit_some {x : ByteArray} (h : fitL (runes x 0) = true) : x ≠ ByteArray.empty := by
  rintro rfl
  rw [runes_end _ _ (by decide)] at h
  cases h
theorem empty_lt {x : ByteArray} (h : x ≠ ByteArray.empty) : nlt ByteArray.empty x = true := by
  rcases nlt_cases ByteArray.empty x with g | g | g
  · exact g
  · exact absurd g.symm h
  · rw [nlt_iff] at g
    rw [Lib.toList_data ByteArray.empty] at g
    exact absurd g (List.not_lt_nil _)
theorem okP_iff {l : List Pk} : okP l = true ↔ RisesP l ∧ ∀ q ∈ l, fitL (runes q.1 0) = true ∧ verOk q.2 = true :=
  ⟨fun h => ⟨okQ_rises h, fun q hq => (okQ_all h q hq).2⟩, fun h => okQ_of h.1 (fun q hq => empty_lt (fit_some (h.2 q hq).1)) h.2⟩
def dropP (l : List Pk) (n : ByteArray) : List Pk := l.filter fun q => decide (q.1 ≠ n)
def putP (l : List Pk) (p : Pk) : List Pk := insP p false (dropP l p.1)
end Go.Proofs.YtpicnbidbddggaaGreatDoor.Pick
/-
  Plain mathematics of clashes: terms of names that rise; what terms come to, what two clashes are joined to; a state of names has what terms come to just if it has each; if what two are joined to holds, one of the two does. No program.
-/
namespace Go.Proofs.YtpicnbidbddggaaGreatDoor.Clash
open Go.RowKit Go.Lib Go.Proofs.YtpicnbidbddggaaGreatDoor.Span Go.Proofs.YtpicnbidbddggaaGreatDoor.Need Go.Proofs.YtpicnbidbddggaaGreatDoor.Pick Go.Proofs.YtpicnbidbddggaaGreatDoor.Term
set_option linter.unusedVariables false
abbrev St := ByteArray → Option Int
def OkSt (q : St) : Prop := ∀ n v, q n = some v → 0 ≤ v ∧ v < 1000000000
def holdsT (q : St) (t : Tm) : Bool := match q t.name with
  | some v => has t.set v
  | none => t.none
def holdsC (q : St) (c : List Tm) : Bool := c.all (holdsT q)
noncomputable def putC (t : Tm) : Bool → List Tm → List Tm
  | f, [] => if f = true then [] else [t]
  | f, x :: r => if x.name = t.name then meetT x t :: putC t true r else if f = false ∧ nlt t.name x.name = true then t :: x :: putC t true r else x :: putC t f r
noncomputable def putsC (l : List Tm) : List Tm := l.foldl (fun c t => putC t false c) []
noncomputable def makeC (l : List Tm) : Option (List Tm) := if (putsC l).any emptyT = true then none else some ((putsC l).filter fun t => !fullT t)
def findC (c : List Tm) (n : ByteArray) : Option Tm := c.find? fun t => decide (t.name = n)
def dropC (c : List Tm) (n : ByteArray) : List Tm := c.filter fun t => !decide (t.name = n)
noncomputable def joinC (a b : List Tm) (n : ByteArray) : Option (List Tm) := match findC a n, findC b n with
  | some x, some y => makeC (joinT x y :: dropC a n ++ dropC b n)
  | _, _ => none
def RisesC (c : List Tm) : Prop := c.Pairwise fun x y => nlt x.name y.name = true
def OkC (c : List Tm) : Prop := RisesC c ∧ ∀ t ∈ c, okT t = true ∧ fullT t = false ∧ emptyT t = false
section
variable {q : St}
theorem holds_meet (hq : OkSt q) {x y : Tm} (h : x.name = y.name) : holdsT q (meetT x y) = (holdsT q x && holdsT q y) := by
  rw [meet_same h]
  unfold holdsT
  simp only [← h]
  cases e : q x.name with
  | none => rfl
  | some v => exact m_has _ _ (hq _ _ e).1 (hq _ _ e).2
theorem holds_full (hq : OkSt q) {t : Tm} (h : fullT t = true) : holdsT q t = true := by
  unfold fullT at h
  simp only [Bool.and_eq_true, decide_eq_true_eq] at h
  unfold holdsT
  rw [h.1, h.2]
  cases e : q t.name with
  | none => rfl
  | some v => exact a_has (hq _ _ e).1 (hq _ _ e).2
theorem holds_empty {t : Tm} (h : emptyT t = true) : holdsT q t = false := by
  unfold emptyT at h
  simp only [Bool.and_eq_true, decide_eq_true_eq, Bool.not_eq_true'] at h
  unfold holdsT
  rw [h.1, h.2]
  cases e : q t.name with
  | none => rfl
  | some v => rfl
theorem put_yes (hq : OkSt q) {t : Tm} (h : holdsT q t = true) : ∀ (c : List Tm) (f : Bool), holdsC q (putC t f c) = holdsC q c
  | [], f => by
    rw [putC]
    split
    · rfl
    · simp [holdsC, h]
  | x :: r, f => by
    rw [putC]
    unfold holdsC
    split
    · rename_i e
      have := put_yes hq h r true
      unfold holdsC at this
      rw [List.all_cons, List.all_cons, this, holds_meet hq e, h, Bool.and_true]
    · split
      · have := put_yes hq h r true
        unfold holdsC at this
        rw [List.all_cons, List.all_cons, List.all_cons, this, h, Bool.true_and]
      · have := put_yes hq h r f
        unfold holdsC at this
        rw [List.all_cons, List.all_cons, this]
theorem put_no (hq : OkSt q) {t : Tm} (h : holdsT q t = false) : ∀ (c : List Tm), holdsC q (putC t false c) = false
  | [] => by rw [putC]; simp [holdsC, h]
  | x :: r => by
    rw [putC]
    unfold holdsC
    split
    · rename_i e
      rw [List.all_cons, holds_meet hq e, h, Bool.and_false, Bool.false_and]
    · split
      · rw [List.all_cons, h, Bool.false_and]
      · have := put_no hq h r
        unfold holdsC at this
        rw [List.all_cons, this, Bool.and_false]
theorem put_holds (hq : OkSt q) (t : Tm) (c : List Tm) : holdsC q (putC t false c) = (holdsC q c && holdsT q t) := by
  cases h : holdsT q t with
  | true => rw [put_yes hq h, Bool.and_true]
  | false => rw [put_no hq h, Bool.and_false]
theorem puts_holds (hq : OkSt q) (l : List Tm) : holdsC q (putsC l) = holdsC q l := by
  have key : ∀ (l c : List Tm), holdsC q (l.foldl (fun c t => putC t false c) c) = (holdsC q c && holdsC q l) := by
    intro l
    induction l with
    | nil => intro c; simp [holdsC]
    | cons t r ih =>
      intro c
      rw [List.foldl_cons, ih, put_holds hq]
      show _ = (holdsC q c && (holdsT q t && holdsC q r))
      rw [Bool.and_assoc]
  unfold putsC
  rw [key]
  show (true && holdsC q l) = _
  rw [Bool.true_and]
theorem make_holds (hq : OkSt q) {l m : List Tm} (h : makeC l = some m) : holdsC q m = holdsC q l := by
  unfold makeC at h
  split at h
  · cases h
  · injection h with h
    rw [← h, ← puts_holds hq l]
    generalize putsC l = c
    induction c with
    | nil => rfl
    | cons t r ih =>
      rw [List.filter_cons]
      cases e : fullT t with
      | true =>
        simp only [Bool.not_true, Bool.false_eq_true, if_false]
        show _ = (holdsT q t && holdsC q r)
        rw [ih, holds_full hq e, Bool.true_and]
      | false =>
        simp only [Bool.not_false, if_true]
        show (holdsT q t && holdsC q _) = (holdsT q t && holdsC q r)
        rw [ih]
theorem make_never (hq : OkSt q) {l : List Tm} (h : makeC l = none) : holdsC q l = false := by
  unfold makeC at h
  split at h
  · rename_i e
    obtain ⟨t, ht, he⟩ := List.any_eq_true.1 e
    rw [← puts_holds hq l]
    unfold holdsC
    rw [List.all_eq_false]
    exact ⟨t, ht, by rw [holds_empty he]; simp⟩
  · cases h
theorem put_names (t : Tm) : ∀ (c : List Tm) (f : Bool), ∀ z ∈ putC t f c, z.name = t.name ∨ ∃ x ∈ c, z.name = x.name
  | [], f, z, hz => by
    rw [putC] at hz
    split at hz
    · cases hz
    · exact .inl (by rw [List.mem_singleton.1 hz])
  | x :: r, f, z, hz => by
    rw [putC] at hz
    have go : ∀ g, z ∈ putC t g r → z.name = t.name ∨ ∃ y ∈ x :: r, z.name = y.name := fun g hg => by
      rcases put_names t r g z hg with h | ⟨y, hy, h⟩
      · exact .inl h
      · exact .inr ⟨y, by simp [hy], h⟩
    split at hz
    · rename_i e
      rcases List.mem_cons.1 hz with h | h
      · rw [h, meet_same e]; exact .inl e
      · exact go _ h
    · split at hz
      · rcases List.mem_cons.1 hz with h | h
        · exact .inl (by rw [h])
        · rcases List.mem_cons.1 h with h | h
          · exact .inr ⟨x, by simp, by rw [h]⟩
          · exact go _ h
      · rcases List.mem_cons.1 hz with h | h
        · exact .inr ⟨x, by simp, by rw [h]⟩
        · exact go _ h
theorem put_true (t : Tm) : ∀ (c : List Tm), (∀ x ∈ c, x.name ≠ t.name) → putC t true c = c
  | [], _ => rfl
  | x :: r, h => by
    rw [putC, if_neg (h x (by simp)), if_neg (by simp), put_true t r fun y hy => h y (by simp [hy])]
theorem put_rises (t : Tm) : ∀ {c : List Tm}, RisesC c → RisesC (putC t false c)
  | [], h => by rw [putC]; simp [RisesC]
  | x :: r, h => by
    obtain ⟨h1, h2⟩ := List.pairwise_cons.1 h
    rw [putC]
    split
    · rename_i e
      rw [put_true t r fun y hy hn => by have := h1 y hy; rw [e, ← hn, nlt_self] at this; cases this]
      refine List.pairwise_cons.2 ⟨fun y hy => ?_, h2⟩
      rw [meet_same e]
      exact h1 y hy
    · rename_i e
      split
      · rename_i hl
        rw [put_true t r fun y hy hn => by have := nlt_trans hl.2 (h1 y hy); rw [hn, nlt_self] at this; cases this]
        refine List.pairwise_cons.2 ⟨fun y hy => ?_, h⟩
        rcases List.mem_cons.1 hy with rfl | hy
        · exact hl.2
        · exact nlt_trans hl.2 (h1 y hy)
      · rename_i hl
        refine List.pairwise_cons.2 ⟨fun y hy => ?_, put_rises t h2⟩
        rcases put_names t r false y hy with hn | ⟨z, hz, hn⟩
        · rw [hn]
          rcases nlt_cases t.name x.name with a | a | a
          · exact absurd ⟨rfl, a⟩ hl
          · exact absurd a.symm e
          · exact a
        · rw [hn]; exact h1 z hz
theorem put_ok {t : Tm} (ht : okT t = true) : ∀ {c : List Tm} (f : Bool), (∀ x ∈ c, okT x = true) → ∀ z ∈ putC t f c, okT z = true
  | [], f, h, z, hz => by
    rw [putC] at hz
    split at hz
    · cases hz
    · rw [List.mem_singleton.1 hz]; exact ht
  | x :: r, f, h, z, hz => by
    have hx := h x (by simp)
    have hr : ∀ y ∈ r, okT y = true := fun y hy => h y (by simp [hy])
    rw [putC] at hz
    split at hz
    · rename_i e
      rcases List.mem_cons.1 hz with hz | hz
      · rw [hz, meet_same e]
        unfold okT at hx ⊢
        simp only [Bool.and_eq_true] at hx ⊢
        exact ⟨hx.1, nf_set _⟩
      · exact put_ok ht true hr z hz
    · split at hz
      · rcases List.mem_cons.1 hz with hz | hz
        · rw [hz]; exact ht
        · rcases List.mem_cons.1 hz with hz | hz
          · rw [hz]; exact hx
          · exact put_ok ht true hr z hz
      · rcases List.mem_cons.1 hz with hz | hz
        · rw [hz]; exact hx
        · exact put_ok ht f hr z hz
theorem puts_ok {l : List Tm} (h : ∀ t ∈ l, okT t = true) : RisesC (putsC l) ∧ ∀ z ∈ putsC l, okT z = true := by
  have key : ∀ (l c : List Tm), (∀ t ∈ l, okT t = true) → RisesC c → (∀ t ∈ c, okT t = true) → RisesC (l.foldl (fun c t => putC t false c) c) ∧ ∀ z ∈ l.foldl (fun c t => putC t false c) c, okT z = true := by
    intro l
    induction l with
    | nil => intro c _ h1 h2; exact ⟨h1, h2⟩
    | cons t r ih =>
      intro c h0 h1 h2
      rw [List.foldl_cons]
      exact ih _ (fun y hy => h0 y (by simp [hy])) (put_rises t h1) (put_ok (h0 t (by simp)) false h2)
  exact key l [] h List.Pairwise.nil fun z hz => by cases hz
theorem make_ok {l m : List Tm} (hl : ∀ t ∈ l, okT t = true) (h : makeC l = some m) : OkC m := by
  obtain ⟨h1, h2⟩ := puts_ok hl
  unfold makeC at h
  split at h
  · cases h
  · rename_i e
    injection h with h
    subst h
    refine ⟨List.Pairwise.filter _ h1, fun t ht => ?_⟩
    obtain ⟨ht, hf⟩ := List.mem_filter.1 ht
    refine ⟨h2 t ht, by simpa using hf, ?_⟩
    cases e2 : emptyT t with
    | false => rfl
    | true => exact absurd (List.any_eq_true.2 ⟨t, ht, e2⟩) e
theorem find_name {c : List Tm} {n : ByteArray} {x : Tm} (h : findC c n = some x) : x ∈ c ∧ x.name = n := by
  unfold findC at h
  exact ⟨List.mem_of_find?_eq_some h, by simpa using List.find?_some h⟩
end
end Go.Proofs.YtpicnbidbddggaaGreatDoor.Clash
/-
  Plain mathematics of proofs' steps: which may be; which steps the last one leans on; what is left of a proof that is trimmed: it may be, is trimmed, ends in the step that was last, and has no step that was not there. No program.
-/
namespace Go.Proofs.YtpicnbidbddggaaGreatDoor.Proof
open Go.RowKit Go.Lib Go.Proofs.YtpicnbidbddggaaGreatDoor.Span Go.Proofs.YtpicnbidbddggaaGreatDoor.Need Go.Proofs.YtpicnbidbddggaaGreatDoor.Pick
open Go.Proofs.YtpicnbidbddggaaGreatDoor.Label (runes fitL)
set_option linter.unusedVariables false
structure Sp where
  kind : Int
  name : ByteArray
  ver : Int
  dest : ByteArray
  a : Int
  b : Int
def mayS (s : Sp) (i : Nat) : Bool := ((decide (1 ≤ s.kind ∧ s.kind ≤ 4) && fitL (runes s.name 0)) && (if s.kind = 3 then fitL (runes s.dest 0) && verOk s.ver else decide (s.dest = ByteArray.empty) && decide (s.ver = 0))) && (if s.kind = 4 then decide (0 ≤ s.a ∧ s.a < i ∧ 0 ≤ s.b ∧ s.b < i) else decide (s.a = 0 ∧ s.b = 0))
def OkSteps (l : List Sp) : Prop := ∀ (i : Nat) (s : Sp), l[i]? = some s → mayS s i = true
def setU (u : Nat → Bool) (k : Nat) : Nat → Bool := fun j => u j || decide (j = k)
def stepU (l : List Sp) (i : Nat) (u : Nat → Bool) : Nat → Bool := match l[i]? with
  | some s => if u i = true ∧ s.kind = 4 then setU (setU u s.a.toNat) s.b.toNat else u
  | none => u
def markT (l : List Sp) : Nat → (Nat → Bool) → (Nat → Bool)
  | 0, u => u
  | i + 1, u => markT l i (stepU l i u)
def usedT (l : List Sp) : Nat → Bool := markT l l.length fun k => decide (k = l.length - 1)
def atT (l : List Sp) (i : Nat) : Nat := ((List.range i).filter (usedT l)).length
def reS (l : List Sp) (s : Sp) : Sp := if s.kind = 4 then { s with a := (atT l s.a.toNat : Int), b := (atT l s.b.toNat : Int) } else s
def leftT (l : List Sp) (i : Nat) : Option Sp := match l[i]? with
  | some s => if usedT l i = true then some (reS l s) else none
  | none => none
def trimT (l : List Sp) : List Sp := (List.range l.length).filterMap (leftT l)
inductive U (l : List Sp) : Nat → Prop
  | last : U l (l.length - 1)
  | left {i : Nat} {s : Sp} (h : U l i) (hs : l[i]? = some s) (hk : s.kind = 4) : U l s.a.toNat
  | right {i : Nat} {s : Sp} (h : U l i) (hs : l[i]? = some s) (hk : s.kind = 4) : U l s.b.toNat
section
variable {l : List Sp}
end
end Go.Proofs.YtpicnbidbddggaaGreatDoor.Proof
/-
  Slices of picks in memory: what came in with a call, and new ones of the call's own. No condition.
-/
namespace Go.Proofs.YtpicnbidbddggaaGreatDoor.Pick
open Go Go.RowKit Go.Lib
set_option linter.unusedVariables false
theorem alloc_b (w : World) (o : Obj) : Below w.heap.size w (w.alloc o) := (Below.refl _ _).alloc (Nat.le_refl _) o
def pks : List Pk → List Value
  | [] => []
  | s :: t => .string s.1 :: .int .i64 s.2 :: pks t
theorem pks_length (l : List Pk) : (pks l).length = l.length * 2 := by
  induction l with
  | nil => rfl
  | cons s t ih => simp [pks, ih]; omega
theorem pks_get (l : List Pk) : ∀ (i : Nat) (s : Pk), l[i]? = some s → (pks l)[i * 2]? = some (.string s.1) ∧ (pks l)[i * 2 + 1]? = some (.int .i64 s.2) := by
  induction l with
  | nil => intro i s h; simp at h
  | cons x t ih =>
    intro i s h
    cases i with
    | zero => simp at h; subst h; exact ⟨rfl, rfl⟩
    | succ i =>
      rw [List.getElem?_cons_succ] at h
      have := ih i s h
      rw [show (i + 1) * 2 = i * 2 + 1 + 1 by omega, show i * 2 + 1 + 1 + 1 = (i * 2 + 1) + 1 + 1 by omega]
      exact this
theorem pks_drop (l : List Pk) : ∀ k : Nat, (pks l).drop (k * 2) = pks (l.drop k) := by
  induction l with
  | nil => intro k; simp [pks]
  | cons x t ih =>
    intro k
    cases k with
    | zero => rfl
    | succ k =>
      rw [show (k + 1) * 2 = k * 2 + 1 + 1 by omega]
      simp only [pks, List.drop_succ_cons, ih]
theorem pks_take (l : List Pk) : ∀ k : Nat, (pks l).take (k * 2) = pks (l.take k) := by
  induction l with
  | nil => intro k; simp [pks]
  | cons x t ih =>
    intro k
    cases k with
    | zero => simp [pks]
    | succ k =>
      rw [show (k + 1) * 2 = k * 2 + 1 + 1 by omega]
      simp only [pks, List.take_succ_cons, ih]
theorem add_field (ad : Addr) (k : Nat) : ad.add (k + 1) = ⟨(ad.add k).block, (ad.add k).off + 1, none⟩ := by
  unfold Addr.add
  by_cases h : k = 0 <;> simp [h, Nat.add_assoc]
def PkIn (w : World) (B : Nat) (A : Option Addr) (n : Nat) (l : List Pk) : Prop := Reads w B 2 A n (pks l)
section
variable {w w' : World} {B B' n k : Nat} {A : Option Addr} {l : List Pk}
theorem PkIn.len (h : PkIn w B A n l) : l.length = n := by
  have := h.1
  rw [pks_length] at this
  omega
theorem PkIn.at_ (h : PkIn w B A n l) (hk : k < n) :
    ∃ ad s, A = some ad ∧ ad.block < B ∧ l[k]? = some s ∧ w.cell? (ad.add (k * 2)) = some (.string s.1) ∧ w.cell? ⟨(ad.add (k * 2)).block, (ad.add (k * 2)).off + 1, none⟩ = some (.int .i64 s.2) := by
  have hl := h.len
  obtain ⟨ad, hA, hb, hc⟩ := h.2 (by omega)
  obtain ⟨g1, g2⟩ := pks_get l k (l[k]'(by omega)) (by simp)
  refine ⟨ad, l[k]'(by omega), hA, hb, by simp, hc _ _ g1, ?_⟩
  rw [← add_field]
  exact hc _ _ g2
theorem PkIn.below (h : PkIn w B A n l) (hb : Below B w w') : PkIn w' B A n l := Reads.below h hb
theorem PkIn.more (h : PkIn w B A n l) (hb : B ≤ B') : PkIn w B' A n l := Reads.more h hb
theorem PkIn.nil (w : World) (B : Nat) (A : Option Addr) : PkIn w B A 0 [] := ⟨rfl, fun h => absurd h (by omega)⟩
theorem PkIn.cut (h : PkIn w B A n l) {c : Nat} (hk : k ≤ n) (hc : n ≤ c) : PkIn w B (if c = k then A else A.map (·.add (k * 2))) (n - k) (l.drop k) := by
  have := Reads.cut h hk hc
  rw [pks_drop] at this
  exact this
theorem PkIn.take (h : PkIn w B A n l) (hk : k ≤ n) : PkIn w B A k (l.take k) := by
  have hl := h.len
  refine ⟨by rw [pks_length, List.length_take]; omega, fun hn => ?_⟩
  obtain ⟨ad, hA, hb, hc⟩ := h.2 (by omega)
  refine ⟨ad, hA, hb, fun j u hu => ?_⟩
  rw [← pks_take, List.getElem?_take] at hu
  split at hu
  · exact hc j u hu
  · cases hu
end
def PkOn (w : World) (A : Option Addr) (n : Nat) (l : List Pk) : Prop := PkIn w w.heap.size A n l
theorem PkOn.on {w w' : World} {A : Option Addr} {n : Nat} {l : List Pk} (h : PkOn w A n l) (hb : Below w.heap.size w w') : PkOn w' A n l := (PkIn.below h hb).more hb.size
theorem PkOn.len {w : World} {A : Option Addr} {n : Nat} {l : List Pk} (h : PkOn w A n l) : l.length = n := PkIn.len h
theorem pkOn_of {w : World} {A : Option Addr} {n : Nat} {l : List Pk} (h : RowOf (liePair lieStr (lieInt .i64)) w w.heap.size A n l) : PkOn w A n l ∧ ∀ q ∈ l, q.1.size ≤ maxLen := by
  have key : ∀ i (q : Pk), l[i]? = some q → ∃ ad, A = some ad ∧ ad.block < w.heap.size ∧ w.cell? (ad.add (i * 2)) = some (.string q.1) ∧ w.cell? (ad.add (i * 2 + 1)) = some (.int .i64 q.2) ∧ q.1.size ≤ maxLen := by
    intro i q hq
    have hi : i < l.length := (List.getElem?_eq_some_iff.1 hq).1
    obtain ⟨ad, hA, hB, hc⟩ := h.2 (by have := h.1; omega)
    obtain ⟨cs, h1, c1, c2, e, ⟨e1, hs⟩, ⟨e2, _⟩⟩ := hc i q hq
    subst e e1 e2
    have x0 := h1 0 (by simp)
    have x1 := h1 1 (by simp)
    rw [add_of_add] at x0 x1
    exact ⟨ad, hA, hB, by simpa [liePair, lieInt, lieStr] using x0, by simpa [liePair, lieInt, lieStr] using x1, hs⟩
  refine ⟨⟨by rw [pks_length, h.1], fun hn => ?_⟩, fun q hq => ?_⟩
  · obtain ⟨ad, hA, hB, _⟩ := h.2 hn
    refine ⟨ad, hA, hB, fun j u hu => ?_⟩
    have hj : j < l.length * 2 := by
      have := (List.getElem?_eq_some_iff.1 hu).1
      rwa [pks_length] at this
    have hi : l[j / 2]? = some (l[j / 2]'(by omega)) := by simp
    obtain ⟨ad', hA', _, c1, c2, _⟩ := key _ _ hi
    rw [hA] at hA'
    injection hA' with hA'
    subst hA'
    obtain ⟨g1, g2⟩ := pks_get l _ _ hi
    rcases Nat.mod_two_eq_zero_or_one j with h0 | h0
    · have ej : j = j / 2 * 2 := by omega
      rw [ej, g1] at hu
      injection hu with hu
      subst hu
      rw [← ej] at c1
      exact c1
    · have ej : j = j / 2 * 2 + 1 := by omega
      rw [ej, g2] at hu
      injection hu with hu
      subst hu
      rw [← ej] at c2
      exact c2
  · obtain ⟨i, hi, rfl⟩ := List.getElem_of_mem hq
    obtain ⟨_, _, _, _, _, h5⟩ := key i l[i] (by simp)
    exact h5
def NewP (w : World) (B : Nat) (A : Option Addr) (n c : Nat) (l : List Pk) : Prop :=
  n = l.length ∧ n ≤ c ∧ w.ownsRow B 42 2 (.slice A n c) n (pks l) ∧ PkOn w A n l
theorem NewP.nil_ (w : World) (B : Nat) : NewP w B none 0 0 [] := ⟨rfl, Nat.le_refl _, World.ownsRow_nil w B _ 2, PkIn.nil _ _ _⟩
theorem NewP.below {w w' : World} {B : Nat} {A : Option Addr} {n c : Nat} {l : List Pk} (h : NewP w B A n c l) (hb : Below w.heap.size w w') : NewP w' B A n c l :=
  ⟨h.1, h.2.1, own_below h.2.2.1 hb, h.2.2.2.on hb⟩
theorem NewP.less {w : World} {B B' : Nat} {A : Option Addr} {n c : Nat} {l : List Pk} (h : NewP w B A n c l) (hB : B' ≤ B) : NewP w B' A n c l :=
  ⟨h.1, h.2.1, own_less h.2.2.1 hB, h.2.2.2⟩
def MakesP (w : World) (L : List Pk) (e : Ending) (w' : World) : Prop := ∃ A n c, e = .returned (.slice A n c) ∧ NewP w' 0 A n c L ∧ Below w.heap.size w w'
theorem MakesP.le {w w' : World} {A : Option Addr} {n c B : Nat} {L : List Pk} (h : NewP w B A n c L) : n ≤ c ∧ L.length = n := ⟨h.2.1, h.1.symm⟩
end Go.Proofs.YtpicnbidbddggaaGreatDoor.Pick
/-
  Contracts of the document's Get, Drop and Put. Condition: no more than 1,000,000 picks.
-/
namespace Go.Proofs.YtpicnbidbddggaaGreatDoor.Pick
open Go Go.RowKit Go.Lib Go.Proofs.YtpicnbidbddggaaGreatDoor.Need
set_option linter.unusedVariables false
set_option maxHeartbeats 2000000 in
theorem refGetP_any (l : List Pk) (nm : ByteArray) (A : Option Addr) (n c : Nat) (w : World) (h : PkOn w A n l) (hn : n ≤ 1000000) :
    Calls Tryz.prog 51 #[.slice A n c, .string nm] w fun e w' => e = .returned (.tuple #[.int .i64 ((getP l nm).getD 0), .bool (getP l nm).isSome]) ∧ w' = w := by
  have hlen := hide h.len
  have Hd := hide (fun i q => @getP_drop l nm i q)
  obtain ⟨r, hr⟩ : ∃ r, r = getP l nm := ⟨_, rfl⟩
  rw [← hr]
  have Hr := hide hr
  clear hr
  go_enter Tryz.func51, Tryz.ntmps51
  go_wp2
  go_loopw [6] (fun v wr => ∃ i : Nat, i ≤ n ∧ v = .int .i64 (i : Int) ∧ Hid (r = getP (l.drop i) nm) ∧ wr = w) (fun v _ => n - (RowKit.intOf v).toNat)
  case atStart => exact ⟨0, by omega, rfl, Hr, rfl⟩
  case round =>
    obtain ⟨i, hi, rfl, hf, rfl⟩ := hrel
    by_cases hlt : i < n
    · obtain ⟨ad, q, rfl, hbl, hx, c1, c2⟩ := PkIn.at_ h hlt
      have hd := hf.out.trans (Hd.out i q hx)
      have he := eq_names q.1 nm
      clear hx hf Hd Hr h
      by_cases hq : q.1 = nm
      · rw [if_pos hq] at hd
        rw [decide_eq_true hq] at he
        have e := hide hd
        clear hd hq
        go_wp2
        go_ret2
        exact ⟨by rw [e.out]; rfl, rfl⟩
      · rw [if_neg hq] at hd
        rw [decide_eq_false hq] at he
        have e := hide hd
        clear hd hq
        go_wp2
        go_roundw
        case rel => exact ⟨i + 1, by omega, by go_num, e, by trivial⟩
        case measure => simp [RowKit.intOf]; omega
    · have e : Hid (r = none) := hide (by rw [hf.out, List.drop_of_length_le (by have := hlen.out; omega)]; rfl)
      clear hf
      go_wp2
      go_ret2
      exact ⟨by rw [e.out]; rfl, rfl⟩
end Go.Proofs.YtpicnbidbddggaaGreatDoor.Pick
/-
  Where a name's pick stands among picks whose names rise, or would stand; what is got, put and dropped by that place. No program.
-/
namespace Go.Proofs.YtpicnbidbddggaaGreatDoor.Pick
open Go.RowKit Go.Lib Go.Proofs.YtpicnbidbddggaaGreatDoor.Span Go.Proofs.YtpicnbidbddggaaGreatDoor.Need
set_option linter.unusedVariables false
def fidx : List Pk → ByteArray → Nat
  | [], _ => 0
  | q :: t, n => if nlt q.1 n = true then fidx t n + 1 else 0
theorem fidx_le : ∀ (l : List Pk) (n : ByteArray), fidx l n ≤ l.length
  | [], _ => Nat.le_refl _
  | q :: t, n => by
    unfold fidx
    have := fidx_le t n
    split
    · simpa using this
    · exact Nat.zero_le _
theorem fidx_lt : ∀ {l : List Pk}, RisesP l → ∀ (n : ByteArray) (i : Nat) (q : Pk), l[i]? = some q → (nlt q.1 n = true ↔ i < fidx l n)
  | [], _, n, i, q, h => by simp at h
  | x :: t, hr, n, 0, q, h => by
    simp at h
    subst h
    unfold fidx
    split
    · rename_i g; simp [g]
    · rename_i g; simp [g]
  | x :: t, hr, n, i + 1, q, h => by
    rw [List.getElem?_cons_succ] at h
    obtain ⟨h1, h2⟩ := List.pairwise_cons.1 hr
    have ih := fidx_lt h2 n i q h
    unfold fidx
    split
    · rw [ih]; omega
    · rename_i g
      constructor
      · intro g2
        exact absurd (nlt_trans (h1 q (List.mem_of_getElem? h)) g2) g
      · intro g2; omega
theorem above {x : Pk} {t : List Pk} {n : ByteArray} (h : ∀ q ∈ t, nlt x.1 q.1 = true) (g : ¬ nlt x.1 n = true) : ∀ q ∈ t, nlt n q.1 = true := fun q hq => by
  rcases nlt_cases x.1 n with g1 | g1 | g1
  · exact absurd g1 g
  · rw [← g1]; exact h q hq
  · exact nlt_trans g1 (h q hq)
theorem above_ne {t : List Pk} {n : ByteArray} (h : ∀ q ∈ t, nlt n q.1 = true) : ∀ q ∈ t, q.1 ≠ n := fun q hq e => by
  have := h q hq
  rw [e, nlt_self] at this
  cases this
theorem fidx_get : ∀ {l : List Pk}, RisesP l → ∀ (n : ByteArray), getP l n = (l[fidx l n]?).bind fun q => if q.1 = n then some q.2 else none
  | [], _, n => rfl
  | x :: t, hr, n => by
    obtain ⟨h1, h2⟩ := List.pairwise_cons.1 hr
    have ih := fidx_get h2 n
    unfold fidx
    split
    · rename_i g
      rw [getP, if_neg (nlt_ne g), List.getElem?_cons_succ]
      exact ih
    · rename_i g
      rw [getP]
      show _ = (some x).bind _
      rw [Option.bind_some]
      by_cases e : x.1 = n
      · rw [if_pos e, if_pos e]
      · rw [if_neg e, if_neg e, getP_none (above_ne (above h1 g))]
def nidx (l : List Pk) (n : ByteArray) : Nat := if (getP l n).isSome = true then fidx l n + 1 else fidx l n
end Go.Proofs.YtpicnbidbddggaaGreatDoor.Pick
