/-
  Some texts of this claim, one behind the other: Grow. What each proves, and its condition, stands at its head.
-/
import Derived.Deep.Quiet
import Derived.BigQuiet
import Derived.Lib.QuietBelow
import Derived.Below
/-
  A region that draws its order and whose operations and callees may make memory is walked once, in the order of the text: where each slot that hangs on memory is told by a relation that stays as memory grows. No condition. Of no program.
-/
namespace Go.Proofs.YtllogmokadcfmaaGreat.Grow
open Go Go.RowKit
set_option linter.unusedVariables false
abbrev Rel := World → Value → Prop
def look : List (Nat × Rel) → Nat → Option Rel
  | [], _ => none
  | (k, φ) :: r, t => if k = t then some φ else look r t
def opTmps (o : Oper) : List Tmp := o.op.operands.toList.filterMap fun | .tmp t => some t | _ => none
def dstRel (T : List (Nat × Rel)) (o : Oper) : Option Rel := o.dst.bind (look T)
def AllStable : List (Nat × Rel) → Prop
  | [] => True
  | (_, φ) :: r => (∀ w w' v, Below w.heap.size w w' → φ w v → φ w' v) ∧ AllStable r
theorem AllStable.at_ : ∀ {T : List (Nat × Rel)}, AllStable T → ∀ {t Φ}, look T t = some Φ → ∀ w w' v, Below w.heap.size w w' → Φ w v → Φ w' v
  | [], _, _, _, h => by cases h
  | (k, φ) :: r, hs, t, Φ, h => by
    unfold look at h
    split at h
    · injection h with h; subst h; exact hs.1
    · exact hs.2.at_ h
theorem look_keys : ∀ {T : List (Nat × Rel)} {t : Nat} {Φ : Rel}, look T t = some Φ → t ∈ T.map Prod.fst
  | [], _, _, h => by cases h
  | (k, φ) :: r, t, Φ, h => by
    unfold look at h
    split at h
    · rename_i hk; subst hk; simp
    · exact List.mem_cons_of_mem _ (look_keys h)
section
variable {P : Program} {ops : Array Oper} {md : Region.Mode} {C : World → Prop} {T : List (Nat × Rel)}
def Known (T : List (Nat × Rel)) (o : Oper) (a : Act) (w : World) : Prop :=
  ∀ t ∈ opTmps o, ∀ Φ, look T t = some Φ → a.eval (.tmp t) ≠ undef → Φ w (a.eval (.tmp t))
def grows (P : Program) (o : Oper) (a : Act) (w : World) (R : Value → World → Prop) : Prop :=
  match (execOp a.eval o).run P w with
  | .ok (.value u) w' => R u w'
  | .ok .skip w' => R undef w'
  | .ok (.enter f args) w' => Calls P f args w' fun e w'' => ∃ v, e = .returned v ∧ R v w''
  | _ => False
def plain (P : Program) (o : Oper) (a : Act) (w : World) (R : Value → World → Prop) : Prop :=
  match (execOp a.eval o).run P w with
  | .ok (.value u) w' => R u w'
  | .ok .skip w' => R undef w'
  | _ => False
theorem grows_of_plain {o : Oper} {a : Act} {w : World} {R : Value → World → Prop} (h : plain P o a w R) : grows P o a w R := by
  unfold plain at h; unfold grows
  generalize (execOp a.eval o).run P w = r at *
  cases r with
  | ok n w' => cases n <;> first | exact h | exact h.elim
  | halt x w' => exact h.elim
theorem plain_mono {o : Oper} {a : Act} {w : World} {R R' : Value → World → Prop} (hR : ∀ v w', R v w' → R' v w') (h : plain P o a w R) : plain P o a w R' := by
  unfold plain at *
  generalize (execOp a.eval o).run P w = r at *
  cases r with
  | ok n w' => cases n <;> first | exact hR _ _ h | exact h.elim
  | halt x w' => exact h.elim
theorem plain_and {o : Oper} {a : Act} {w : World} {R R' : Value → World → Prop} (h : plain P o a w R) (h' : plain P o a w R') : ∃ v w', R v w' ∧ R' v w' := by
  unfold plain at *
  generalize (execOp a.eval o).run P w = r at *
  cases r with
  | ok n w' => cases n <;> first | exact ⟨_, _, h, h'⟩ | exact h.elim
  | halt x w' => exact h.elim
theorem grows_some {o : Oper} {a : Act} {w : World} {R : Value → World → Prop} (h : grows P o a w R) : ∃ v w', R v w' := by
  unfold grows at h
  generalize (execOp a.eval o).run P w = r at *
  cases r with
  | ok n w' =>
    cases n <;> first | exact ⟨_, _, h⟩ | exact h.elim | skip
    obtain ⟨e, w'', fr, ⟨v, _, hv⟩, _⟩ := h []
    exact ⟨v, w'', hv⟩
  | halt x w' => exact h.elim
theorem wp_of_grows {o : Oper} {a : Act} {w : World} {R : Value → World → Prop} {K : Act → World → Prop} {Q : Exit → Act → World → Prop} (hK : ∀ v w', R v w' → K (a.put o.dst v) w') (h : grows P o a w R) : o.wp P a w K Q := by
  unfold grows at h; unfold Oper.wp
  generalize (execOp a.eval o).run P w = r at *
  cases r with
  | ok n w' =>
    cases n <;> simp only [Oper.upon] <;> first | exact hK _ _ h | exact h.elim | skip
    exact Calls.mono h fun e w'' ⟨v, he, hv⟩ => by subst he; exact hK _ _ hv
  | halt x w' => exact h.elim
def Safe (P : Program) (C : World → Prop) (T : List (Nat × Rel)) (o : Oper) (a : Act) : Prop :=
  match dstRel T o with
  | some Φ => ∀ w, C w → Known T o a w → grows P o a w fun v w' => C w' ∧ Below w.heap.size w w' ∧ Φ w' v
  | none => ∀ w, C w → Known T o a w → plain P o a w fun _ w' => C w' ∧ Below w.heap.size w w'
def Res (P : Program) (C : World → Prop) (T : List (Nat × Rel)) (o : Oper) (a : Act) (v : Value) : Prop :=
  match dstRel T o with
  | some Φ => ∃ w, C w ∧ Φ w v
  | none => ∃ w, C w ∧ Known T o a w ∧ plain P o a w fun u _ => u = v
def Fine (P : Program) (ops : Array Oper) (C : World → Prop) (T : List (Nat × Rel)) (o : Oper) (a : Act) : Prop :=
  Region.wanted o (yielded ops a.tmps) = true → Safe P C T o a
def Out (P : Program) (ops : Array Oper) (C : World → Prop) (T : List (Nat × Rel)) (o : Oper) (a : Act) (v : Value) : Prop :=
  if Region.wanted o (yielded ops a.tmps) = true then Res P C T o a v else v = undef
def Inv (ops : Array Oper) (T : List (Nat × Rel)) (listed : Array Bool) (a : Act) (w : World) : Prop :=
  ∀ (i : Nat) (o : Oper) (t : Nat) (Φ : Rel), ops[i]? = some o → listed.getD i false = true → o.dst = some t → look T t = some Φ → a.eval (.tmp t) ≠ undef → Φ w (a.eval (.tmp t))
def Joint (ops : Array Oper) (C : World → Prop) (T : List (Nat × Rel)) (listed : Array Bool) (a : Act) : Prop := ∃ w, C w ∧ Inv ops T listed a w
def gOp (P : Program) (ops : Array Oper) (C : World → Prop) (T : List (Nat × Rel)) (listed' : Array Bool) (i : Nat) (K : Act → Prop) (a : Act) : Prop :=
  ∀ o, ops[i]? = some o → Fine P ops C T o a ∧ ∀ v, Out P ops C T o a v → Joint ops C T listed' (a.put o.dst v) → K (a.put o.dst v)
def wpAll (P : Program) (md : Region.Mode) (ops : Array Oper) (C : World → Prop) (T : List (Nat × Rel)) (Q : Array Bool → Act → Prop) : Nat → Array Bool → Act → Prop
  | 0, listed, a => Region.ready md ops listed = [] ∧ Q listed a
  | n + 1, listed, a => (Region.ready md ops listed = [] → Q listed a) ∧
    ∀ i ∈ Region.ready md ops listed, gOp P ops C T (listed.setIfInBounds i true) i (wpAll P md ops C T Q n (listed.setIfInBounds i true)) a
def Unique (ops : Array Oper) (T : List (Nat × Rel)) : Prop :=
  ∀ (i j : Nat) (oi oj : Oper) (t : Nat) (Φ : Rel), ops[i]? = some oi → ops[j]? = some oj → oi.dst = some t → oj.dst = some t → look T t = some Φ → i = j
def Waits (md : Region.Mode) (ops : Array Oper) (T : List (Nat × Rel)) : Prop :=
  ∀ (j : Nat) (o : Oper), ops[j]? = some o → ∀ t ∈ opTmps o, ∀ Φ, look T t = some Φ → ∃ e ∈ o.after, Region.binds md e = true ∧ ∃ o', ops[e.on]? = some o' ∧ o'.dst = some t
theorem put_same (a : Act) (t : Nat) (v : Value) : (a.put (some t) v).eval (.tmp t) = v ∨ (a.put (some t) v).eval (.tmp t) = undef := by
  simp only [Act.put, Act.eval]
  by_cases h : t < a.tmps.size
  · left; simp [h]
  · right; simp [Array.setIfInBounds, h]
theorem put_other (a : Act) (d : Option Tmp) (t : Nat) (v : Value) (h : d ≠ some t) : (a.put d v).eval (.tmp t) = a.eval (.tmp t) :=
  Act.eval_put fun d' hd' hx => by injection hx with hx; subst hx; exact h hd'
theorem Inv.put {listed : Array Bool} {a : Act} {w w' : World} {i : Nat} {o : Oper} {v : Value} (hS : AllStable T) (hi : ops[i]? = some o) (h : Inv ops T listed a w) (hg : Below w.heap.size w w')
    (hv : ∀ t Φ, o.dst = some t → look T t = some Φ → v ≠ undef → Φ w' v) : Inv ops T (listed.setIfInBounds i true) (a.put o.dst v) w' := by
  intro j oj t Φ hj hl hd hT hne
  by_cases hdo : o.dst = some t
  · rw [hdo] at hne ⊢
    rcases put_same a t v with e | e
    · rw [e] at hne ⊢; exact hv t Φ hdo hT hne
    · exact absurd e hne
  · rw [put_other a o.dst t v hdo] at hne ⊢
    by_cases hji : j = i
    · subst hji; rw [hi] at hj; injection hj with hj; subst hj; exact absurd hd hdo
    · rw [getD_set_ne false (Ne.symm hji)] at hl
      exact hS.at_ hT w w' _ hg (h j oj t Φ hj hl hd hT hne)
theorem Inv.known {listed : Array Bool} {a : Act} {w : World} {i : Nat} {o : Oper} (hW : Waits md ops T) (hi : ops[i]? = some o) (hr : i ∈ Region.ready md ops listed) (h : Inv ops T listed a w) : Known T o a w := by
  intro t ht Φ hT hne
  obtain ⟨e, he, hb, o', ho', hd'⟩ := hW i o hi t ht Φ hT
  obtain ⟨_, o2, ho2, hall⟩ := mem_ready.1 hr
  rw [hi] at ho2; injection ho2 with ho2; subst ho2
  exact h e.on o' t Φ ho' (hall e he hb) hd' hT hne
theorem out_of {listed : Array Bool} {a : Act} {w : World} {i : Nat} {o : Oper} (hS : AllStable T) (hW : Waits md ops T) (hi : ops[i]? = some o) (hr : i ∈ Region.ready md ops listed) (hC : C w) (h : Inv ops T listed a w)
    (hf : Fine P ops C T o a) : ∃ v w', Out P ops C T o a v ∧ C w' ∧ Inv ops T (listed.setIfInBounds i true) (a.put o.dst v) w' := by
  have hK := h.known hW hi hr
  by_cases hw : Region.wanted o (yielded ops a.tmps) = true
  · have hs := hf hw
    unfold Safe at hs
    cases hT : dstRel T o with
    | some Φ =>
      rw [hT] at hs
      obtain ⟨v, w', hC', hg, hΦ⟩ := grows_some (hs w hC hK)
      refine ⟨v, w', ?_, hC', h.put hS hi hg fun t Ψ hd hl _ => ?_⟩
      · unfold Out Res; rw [if_pos hw, hT]; exact ⟨w', hC', hΦ⟩
      · have : dstRel T o = some Ψ := by unfold dstRel; rw [hd]; exact hl
        rw [hT] at this; injection this with this; subst this; exact hΦ
    | none =>
      rw [hT] at hs
      have hp := hs w hC hK
      obtain ⟨v, w', hC', hg⟩ := grows_some (grows_of_plain hp)
      have hex : ∃ u w', plain P o a w (fun x _ => x = u) ∧ C w' ∧ Below w.heap.size w w' := by
        unfold plain at hp
        unfold plain
        generalize (execOp a.eval o).run P w = r at *
        cases r with
        | ok n w1 => cases n <;> first | exact ⟨_, w1, rfl, hp⟩ | exact hp.elim
        | halt x w1 => exact hp.elim
      obtain ⟨u, w1, hu, hC1, hg1⟩ := hex
      refine ⟨u, w1, ?_, hC1, h.put hS hi hg1 fun t Ψ hd hl _ => ?_⟩
      · unfold Out Res; rw [if_pos hw, hT]; exact ⟨w, hC, hK, hu⟩
      · have : dstRel T o = some Ψ := by unfold dstRel; rw [hd]; exact hl
        rw [hT] at this; cases this
  · exact ⟨undef, w, by unfold Out; rw [if_neg hw], hC, h.put hS hi (Below.refl _ _) fun t Ψ _ _ hne => absurd rfl hne⟩
theorem wpOp_of_gOp {listed : Array Bool} {a : Act} {w : World} {i : Nat} {K : Act → Prop} {K' : Act → World → Prop} {Q' : Exit → Act → World → Prop} (hS : AllStable T) (hW : Waits md ops T) (hr : i ∈ Region.ready md ops listed) (hC : C w) (h : Inv ops T listed a w)
    (hK : ∀ a' w', C w' → Inv ops T (listed.setIfInBounds i true) a' w' → K a' → K' a' w') (hh : gOp P ops C T (listed.setIfInBounds i true) i K a) : wpOp P ops Q' i K' a w := by
  obtain ⟨_, o, hi, _⟩ := mem_ready.1 hr
  obtain ⟨hf, hn⟩ := hh o hi
  have hKn := h.known hW hi hr
  unfold wpOp
  simp only [hi]
  by_cases hw : Region.wanted o (yielded ops a.tmps) = true
  · rw [if_pos hw]
    refine .inl ?_
    have hs := hf hw
    unfold Safe at hs
    unfold Out Res at hn
    cases hT : dstRel T o with
    | some Φ =>
      rw [hT] at hs hn
      refine wp_of_grows (fun v w' hv => ?_) (hs w hC hKn)
      obtain ⟨hC', hg, hΦ⟩ := hv
      have hI := h.put (o := o) (v := v) hS hi hg fun t Ψ hd hl _ => by
        have : dstRel T o = some Ψ := by unfold dstRel; rw [hd]; exact hl
        rw [hT] at this; injection this with this; subst this; exact hΦ
      exact hK _ _ hC' hI (hn v (by rw [if_pos hw]; exact ⟨w', hC', hΦ⟩) ⟨w', hC', hI⟩)
    | none =>
      rw [hT] at hs hn
      have hp := hs w hC hKn
      have hp2 : plain P o a w fun v w' => (C w' ∧ Below w.heap.size w w') ∧ plain P o a w (fun u _ => u = v) := by
        unfold plain at hp ⊢
        generalize (execOp a.eval o).run P w = r at *
        cases r with
        | ok n w1 => cases n <;> first | exact ⟨hp, rfl⟩ | exact hp.elim
        | halt x w1 => exact hp.elim
      refine wp_of_grows (fun v w' hv => ?_) (grows_of_plain hp2)
      obtain ⟨⟨hC', hg⟩, hu⟩ := hv
      have hI := h.put (o := o) (v := v) hS hi hg fun t Ψ hd hl _ => by
        have : dstRel T o = some Ψ := by unfold dstRel; rw [hd]; exact hl
        rw [hT] at this; cases this
      exact hK _ _ hC' hI (hn v (by rw [if_pos hw]; exact ⟨w, hC, hKn, hu⟩) ⟨w', hC', hI⟩)
  · rw [if_neg hw]
    have hI := h.put (o := o) (v := undef) hS hi (Below.refl _ _) fun t Ψ _ _ hne => absurd rfl hne
    exact hK _ _ hC hI (hn undef (by unfold Out; rw [if_neg hw]) ⟨w, hC, hI⟩)
theorem wpAny_of_all {Q : Array Bool → Act → Prop} {Q' : Exit → Act → World → Prop} (hS : AllStable T) (hW : Waits md ops T) (hQ : ∀ listed a w, C w → Inv ops T listed a w → Q listed a → Q' .normal a w) : ∀ (n : Nat) (listed : Array Bool) (a : Act) (w : World), C w → Inv ops T listed a w →
    wpAll P md ops C T Q n listed a → wpAny P md ops Q' n listed a w
  | 0, _, _, _, hC, hI, h => ⟨h.1, hQ _ _ _ hC hI h.2⟩
  | n + 1, _, _, _, hC, hI, h => ⟨fun h0 => hQ _ _ _ hC hI (h.1 h0), fun i hi => wpOp_of_gOp hS hW hi hC hI (fun a' w' hC' hI' hk => wpAny_of_all hS hW hQ n _ a' w' hC' hI' hk) (h.2 i hi)⟩
/-! One operation that is apart from another does not see it. -/
theorem Known.put {oi oj : Oper} {a : Act} {v : Value} {w : World} (h1 : ∀ d, oi.dst = some d → d ∉ oj.looksAt ops) : Known T oj (a.put oi.dst v) w ↔ Known T oj a w := by
  unfold Known
  have e : ∀ t ∈ opTmps oj, (a.put oi.dst v).eval (.tmp t) = a.eval (.tmp t) := fun t ht => put_other a oi.dst t v fun hd => h1 t hd (List.mem_append_left _ ht)
  constructor
  · intro h t ht; rw [← e t ht]; exact h t ht
  · intro h t ht; rw [e t ht]; exact h t ht
theorem Fine.put {oi oj : Oper} {a : Act} {v : Value} (h1 : ∀ d, oi.dst = some d → d ∉ oj.looksAt ops) (hs : ∀ cs b, oj.op ≠ .select cs b) : Fine P ops C T oj (a.put oi.dst v) ↔ Fine P ops C T oj a := by
  unfold Fine Safe grows plain
  simp only [execOp_put oj hs a oi.dst v h1, wanted_put oj a oi.dst v h1, Known.put h1]
theorem Out.put {oi oj : Oper} {a : Act} {v u : Value} (h1 : ∀ d, oi.dst = some d → d ∉ oj.looksAt ops) (hs : ∀ cs b, oj.op ≠ .select cs b) : Out P ops C T oj (a.put oi.dst v) u ↔ Out P ops C T oj a u := by
  unfold Out Res plain
  simp only [execOp_put oj hs a oi.dst v h1, wanted_put oj a oi.dst v h1, Known.put h1]
theorem getD_set_true' {listed : Array Bool} {j k : Nat} (hl : (listed.setIfInBounds k true).getD k false = true) : ((listed.setIfInBounds j true).setIfInBounds k true).getD k false = true := by
  rcases Nat.lt_or_ge k listed.size with h' | h'
  · simp [h']
  · simp [Array.setIfInBounds, Nat.not_lt.2 h'] at hl
theorem Joint.drop {listed : Array Bool} {a : Act} {i j : Nat} {oi oj : Oper} {v u : Value} (hU : Unique ops T) (hi : ops[i]? = some oi) (hj : ops[j]? = some oj) (hji : j ≠ i) (hjl : listed.getD j true = false) (h2 : ∀ d, oi.dst = some d → oj.dst ≠ some d)
    (h : Joint ops C T ((listed.setIfInBounds j true).setIfInBounds i true) ((a.put oj.dst u).put oi.dst v)) : Joint ops C T (listed.setIfInBounds i true) (a.put oi.dst v) := by
  obtain ⟨w, hC, hI⟩ := h
  refine ⟨w, hC, fun k ok t Φ hk hl hd hT hne => ?_⟩
  rw [← Act.put_comm a v u h2] at hI
  have hkj : k ≠ j := by
    rintro rfl
    rw [getD_set_ne false (Ne.symm hji)] at hl
    rcases Nat.lt_or_ge k listed.size with h' | h'
    · simp [h'] at hl hjl; rw [hl] at hjl; cases hjl
    · simp [Array.getElem?_eq_none h'] at hl
  have hdj : oj.dst ≠ some t := fun hd' => hkj (hU k j ok oj t Φ hk hj hd hd' hT)
  have := hI k ok t Φ hk ?_ hd hT
  · rw [put_other _ oj.dst t u hdj] at this; exact this hne
  · by_cases hki : k = i
    · subst hki; exact getD_set_true' hl
    · rw [getD_set_ne false (Ne.symm hki)] at hl ⊢
      rw [getD_set_ne false (Ne.symm hkj)]; exact hl
theorem wpAll_first {Q : Array Bool → Act → Prop} {i : Nat} {oi : Oper} (hS : AllStable T) (hW : Waits md ops T) (hU : Unique ops T) (hi : ops[i]? = some oi) (hsel : ∀ (j : Nat) (o : Oper) cs b, ops[j]? = some o → o.op ≠ .select cs b) :
    ∀ (n : Nat) (listed : Array Bool) (a : Act),
      (∀ j oj, ops[j]? = some oj → j ≠ i → listed.getD j true = false → (∀ e ∈ oj.after, Region.binds md e = true → e.on ≠ i) → oi.apart ops oj = true) →
      i ∈ Region.ready md ops listed → Joint ops C T listed a →
      gOp P ops C T (listed.setIfInBounds i true) i (wpAll P md ops C T Q n (listed.setIfInBounds i true)) a → wpAll P md ops C T Q (n + 1) listed a := by
  intro n
  induction n with
  | zero =>
    intro listed a _ hr hJ H
    refine ⟨fun h => (by rw [h] at hr; cases hr), fun j hj => ?_⟩
    by_cases hji : j = i
    · subst hji; exact H
    · obtain ⟨w, hC, hI⟩ := hJ
      obtain ⟨hf, hn⟩ := H oi hi
      obtain ⟨v, w', hv, hC', hI'⟩ := out_of hS hW hi hr hC hI hf
      have := (hn v hv ⟨w', hC', hI'⟩).1
      have h2 := ready_mono hj hji
      rw [this] at h2
      cases h2
  | succ n ih =>
    intro listed a hfree hr hJ H
    refine ⟨fun h => (by rw [h] at hr; cases hr), fun j hj => ?_⟩
    by_cases hji : j = i
    · subst hji; exact H
    · obtain ⟨hjun, oj, hoj, hall⟩ := mem_ready.1 hj
      have hnot : ∀ e ∈ oj.after, Region.binds md e = true → e.on ≠ i := fun e he hb heq => by
        have h1 := hall e he hb
        have h0 := (mem_ready.1 hr).1
        rw [heq] at h1
        rcases Nat.lt_or_ge i listed.size with h' | h'
        · simp [h'] at h0 h1; rw [h0] at h1; cases h1
        · simp [Array.getElem?_eq_none h'] at h1
      obtain ⟨h1, h2, h3⟩ := Oper.apart_spec (hfree j oj hoj hji hjun hnot)
      have hsi := fun cs b => hsel i oi cs b hi
      have hsj := fun cs b => hsel j oj cs b hoj
      obtain ⟨hf, hn⟩ := H oi hi
      intro o ho
      rw [hoj] at ho; injection ho with ho; subst ho
      have hfj : Fine P ops C T oj a := by
        obtain ⟨w, hC, hI⟩ := hJ
        obtain ⟨v, w', hv, hC', hI'⟩ := out_of hS hW hi hr hC hI hf
        have := ((hn v hv ⟨w', hC', hI'⟩).2 j (ready_mono hj hji) oj hoj).1
        exact (Fine.put h1 hsj).1 this
      refine ⟨hfj, fun u hu hJu => ?_⟩
      have hfree' : ∀ k ok, ops[k]? = some ok → k ≠ i → (listed.setIfInBounds j true).getD k true = false →
          (∀ e ∈ ok.after, Region.binds md e = true → e.on ≠ i) → oi.apart ops ok = true := fun k ok hk hki hun hno => by
        refine hfree k ok hk hki ?_ hno
        by_cases hjk : j = k
        · subst hjk; exact hjun
        · rw [getD_set_ne true hjk] at hun; exact hun
      refine ih (listed.setIfInBounds j true) (a.put oj.dst u) hfree' (ready_mono hr (Ne.symm hji)) hJu ?_
      intro o ho
      rw [hi] at ho; injection ho with ho; subst ho
      refine ⟨(Fine.put h3 hsi).2 hf, fun v hv hJv => ?_⟩
      have hv' := (Out.put h3 hsi).1 hv
      have hJi := Joint.drop hU hi hoj hji hjun h2 hJv
      have := ((hn v hv' hJi).2 j (ready_mono hj hji) oj hoj).2 u ((Out.put h1 hsj).2 hu)
      rw [Array.setIfInBounds_comm _ _ hji, ← Act.put_comm a v u h2]
      refine this ?_
      rw [Array.setIfInBounds_comm _ _ (Ne.symm hji), Act.put_comm a v u h2]
      exact hJv
/-! The lexical walk. -/
def Last (ops : Array Oper) (C : World → Prop) (T : List (Nat × Rel)) (Q : Exit → Act → World → Prop) (a : Act) : Prop :=
  ∀ w, C w → (∀ (i : Nat) (o : Oper) (t : Nat) (Φ : Rel), ops[i]? = some o → o.dst = some t → look T t = some Φ → a.eval (.tmp t) ≠ undef → Φ w (a.eval (.tmp t))) → Q .normal a w
def Lex (P : Program) (ops : Array Oper) (C : World → Prop) (T : List (Nat × Rel)) (Q : Exit → Act → World → Prop) : List Oper → Act → Prop
  | [], a => Last ops C T Q a
  | o :: l, a => Fine P ops C T o a ∧ ∀ v, Out P ops C T o a v → Lex P ops C T Q l (a.put o.dst v)
theorem wpAll_lex {Q : Exit → Act → World → Prop} (hS : AllStable T) (hW : Waits md ops T) (hU : Unique ops T) (hs : Region.noSelect ops = true) : ∀ (l : List Oper) (k : Nat) (listed : Array Bool) (a : Act), (∀ j, l[j]? = ops[k + j]?) →
    Region.lexFrom md ops l.length k listed = true → listed.size = ops.size → (∀ j, j < k → listed.getD j false = true) → Joint ops C T listed a → Lex P ops C T Q l a →
    wpAll P md ops C T (fun listed a => ∀ w, C w → Inv ops T listed a w → Q .normal a w) l.length listed a
  | [], k, listed, a, hl, hB, hsz, hk, _, h => by
    refine ⟨by simpa [Region.lexFrom] using hB, fun w hC hI => h w hC fun i o t Φ hi hd hT hne => hI i o t Φ hi (hk i ?_) hd hT hne⟩
    have h0 : ops[k]? = none := by simpa using (hl 0).symm
    have h1 := Array.getElem?_eq_none_iff.1 h0
    have h2 := (Array.getElem?_eq_some_iff.1 hi).1
    omega
  | o :: l, k, listed, a, hl, hB, hsz, hk, hJ, h => by
    have h0 : ops[k]? = some o := by simpa using (hl 0).symm
    simp only [List.length_cons, Region.lexFrom, Bool.and_eq_true] at hB
    obtain ⟨⟨hr, hf⟩, hB'⟩ := hB
    refine wpAll_first hS hW hU h0 (Region.noSelect_spec hs) l.length listed a (Region.free_spec h0 hf) (by simpa using hr) hJ ?_
    intro o' ho'
    rw [h0] at ho'; injection ho' with ho'; subst ho'
    refine ⟨h.1, fun v hv hJv => ?_⟩
    refine wpAll_lex hS hW hU hs l (k + 1) _ _ (fun j => by have := hl (j + 1); simpa [Nat.add_assoc, Nat.add_comm 1 j] using this) hB' (by simpa using hsz) (fun j hj => ?_) hJv (h.2 v hv)
    by_cases hjk : j = k
    · subst hjk
      have := (Array.getElem?_eq_some_iff.1 h0).1
      simp [hsz, this]
    · rw [getD_set_ne false (Ne.symm hjk)]; exact hk j (by omega)
/-! The same as Bools over the region, at the class 'nothing that was there has turned'. -/
def uniqueB (ks : List Nat) (ops : Array Oper) : Bool :=
  (List.range ops.size).all fun i => (List.range ops.size).all fun j => i == j ||
    (match (ops[i]?).bind (·.dst), (ops[j]?).bind (·.dst) with
     | some s, some t => s != t || !ks.contains s
     | _, _ => true)
def waitsB (md : Region.Mode) (ks : List Nat) (ops : Array Oper) : Bool :=
  ops.toList.all fun o => (opTmps o).all fun t => !ks.contains t || o.after.toList.any fun e => Region.binds md e && ((ops[e.on]?).bind (·.dst)) == some t
theorem unique_of (h : uniqueB (T.map Prod.fst) ops = true) : Unique ops T := by
  intro i j oi oj t Φ hi hj hdi hdj hT
  simp only [uniqueB, List.all_eq_true, List.mem_range] at h
  have := h i (Array.getElem?_eq_some_iff.1 hi).1 j (Array.getElem?_eq_some_iff.1 hj).1
  have hc : (T.map Prod.fst).contains t = true := by rw [List.contains_iff_mem]; exact look_keys hT
  simp only [hi, hj, Option.bind_some, hdi, hdj, Bool.or_eq_true, beq_iff_eq, bne_self_eq_false, Bool.false_or, hc, Bool.not_true] at this
  rcases this with h1 | h1
  · exact h1
  · cases h1
theorem waits_of (h : waitsB md (T.map Prod.fst) ops = true) : Waits md ops T := by
  intro j o hj t ht Φ hT
  simp only [waitsB, List.all_eq_true] at h
  have h1 := h o (by simpa using Array.mem_of_getElem? hj) t ht
  have hc : (T.map Prod.fst).contains t = true := by rw [List.contains_iff_mem]; exact look_keys hT
  rw [hc] at h1
  simp only [Bool.not_true, Bool.false_or, List.any_eq_true, Bool.and_eq_true, beq_iff_eq] at h1
  obtain ⟨e, he, hb, hd⟩ := h1
  refine ⟨e, by simpa using he, hb, ?_⟩
  cases ho : ops[e.on]? with
  | none => rw [ho] at hd; cases hd
  | some o' => rw [ho] at hd; exact ⟨o', rfl, hd⟩
def Reg (w : World) : World → Prop := fun w' => ∃ p : Regrown, w' = Sort.grow (redrawn w p.d) p.os
theorem reg_iff {w w' : World} : Reg w w' ↔ Below w.heap.size w w' :=
  ⟨fun ⟨p, hp⟩ => by rw [hp]; exact below_regrown w p.d p.os, regrown_of_below⟩
theorem reg_on {w w' w'' : World} (h : Reg w w') (hb : Below w'.heap.size w' w'') : Reg w w'' :=
  have h1 := reg_iff.1 h
  reg_iff.2 (h1.trans ⟨hb.os, hb.tape, hb.output, hb.size, fun k hk => hb.block k (Nat.lt_of_lt_of_le hk h1.size)⟩)
theorem wp_region_grow {id : Nat} {Q : Exit → Act → World → Prop} {a : Act} {w : World} {l : List Oper} (T : List (Nat × Rel)) (ks : List Nat) (hm : P.follows .mixedOrders = true) (hB : Region.lexB .any l.toArray = true)
    (hk : T.map Prod.fst = ks) (hU : uniqueB ks l.toArray = true) (hD : waitsB .any ks l.toArray = true) (hS : AllStable T) (h : Lex P l.toArray (Reg w) T Q l a) : (Code.region id l.toArray true).wp P Q a w := by
  subst hk
  simp only [Region.lexB, Bool.and_eq_true] at hB
  have hC : Reg w { w with drawn := w.drawn + 1 } := reg_iff.2 ((Below.refl _ w).drew)
  have hI : Inv l.toArray T (Array.replicate l.toArray.size false) a { w with drawn := w.drawn + 1 } := fun i o t Φ hi hl _ _ _ => by
    have := (Array.getElem?_eq_some_iff.1 hi).1
    simp at this
    simp [this] at hl
  refine wp_region_any hm (wpAny_of_all (Q := fun listed a => ∀ w', Reg w w' → Inv l.toArray T listed a w' → Q .normal a w') hS (waits_of hD) (fun listed a w' hC hI hq => hq w' hC hI) _ _ _ _ hC hI ?_)
  have := wpAll_lex (Q := Q) (C := Reg w) (md := .any) hS (waits_of hD) (unique_of hU) hB.1 l 0 (Array.replicate l.toArray.size false) a (by simp) (by simpa using hB.2) (by simp) (fun j hj => by omega) ⟨_, hC, hI⟩ h
  simpa using this
/-! The steps of the lexical walk. -/
def simpleB : Op → Bool
  | .move _ | .assign _ | .pick _ _ _ | .alloc _ | .build _ _ | .buildSlice _ _ _ | .load _ _ | .binOp _ _ _ _ _ | .unOp _ _ _ | .convert _ _ _ | .makeInterface _ _ | .slice _ _ _ _ _ | .fieldAddr _ _ _ | .field _ _ _ | .indexAddr _ _ _ | .index _ _ _ | .lookup _ _ _ _ | .extract _ _ => true
  | .call c => match c.callee with
    | .builtin .append | .builtin .cap | .builtin .copy | .builtin .len | .builtin .max | .builtin .min => true
    | _ => false
  | _ => false
def noEnter : Result Next → Prop
  | .ok (.value _) _ => True
  | .ok .skip _ => True
  | .ok _ _ => False
  | .halt _ _ => True
theorem noEnter_v (s : Sem Value) (w : World) : noEnter (((do pure (Next.value (← s))) : Sem Next).run P w) := by
  simp only [Sem.run_bind, Sem.run_pure]
  cases s.run P w <;> simp [Result.andThen, noEnter]
theorem noEnter_simple {o : Oper} {ρ : Operand → Value} {w : World} (h : simpleB o.op = true) : noEnter ((execOp ρ o).run P w) := by
  obtain ⟨dst, op, ty, pos, after, guard⟩ := o
  cases op <;> simp only [simpleB, Bool.false_eq_true] at h <;> unfold execOp <;> first | exact noEnter_v _ _ | (simp only [Sem.run_pure]; trivial) | skip
  case pick c x y =>
    change noEnter (Sem.run P (do pure (Next.value (if ← asBool (ρ c) then ρ x else ρ y))) w)
    simp only [Sem.run_bind, Sem.run_pure]
    cases (asBool (ρ c)).run P w <;> simp [Result.andThen, noEnter]
  case call c =>
    obtain ⟨callee, args, tys⟩ := c
    cases callee with
    | builtin b =>
      have key : ∀ r : Result Value, noEnter (r.andThen fun a w' => Result.ok (Next.value a) w') := fun r => by
        cases r <;> simp [Result.andThen, noEnter]
      cases b <;> simp only [Bool.false_eq_true] at h <;> simp only [resolve, invoke, builtin, Sem.run_bind, Sem.run_pure, Result.andThen_ok] <;> exact key _
    | invoke r n => simp at h
    | value f => simp at h
section
variable {w : World} {Q : Exit → Act → World → Prop} {o : Oper} {l : List Oper} {a : Act}
theorem lex_nil (h : Last ops C T Q a) : Lex P ops C T Q [] a := h
theorem lex_skip (hw : Region.wanted o (yielded ops a.tmps) = false) (h : Lex P ops C T Q l (a.put o.dst undef)) : Lex P ops C T Q (o :: l) a := by
  refine ⟨fun h' => (by rw [hw] at h'; cases h'), fun v hv => ?_⟩
  unfold Out at hv
  rw [hw, if_neg (by simp)] at hv
  subst hv; exact h
theorem lex_quiet (hw : Region.wanted o (yielded ops a.tmps) = true) (hT : dstRel T o = none) (hs : simpleB o.op = true)
    (h : ∀ K : Act → Prop, (∀ a, Lex P ops C T Q l a → K a) → o.quiet P a C K) : Lex P ops C T Q (o :: l) a := by
  obtain ⟨v, h1, h2⟩ := h (Lex P ops C T Q l) (fun _ h => h)
  have run : ∀ w, C w → plain P o a w (fun u w' => u = v ∧ w' = w) := fun w hC => by
    have hq := h1 w hC
    have hne := noEnter_simple (P := P) (ρ := a.eval) (w := w) hs
    unfold Oper.quietAt at hq
    unfold plain
    generalize (execOp a.eval o).run P w = r at *
    cases r with
    | ok n w' =>
      cases n <;> simp only [Oper.quietUpon] at hq <;> first | exact ⟨hq.2, hq.1⟩ | exact ⟨hq.2.symm, hq.1⟩ | exact hne.elim
    | halt x w' => exact hq.elim
  refine ⟨fun _ => ?_, fun u hu => ?_⟩
  · unfold Safe
    rw [hT]
    exact fun w hC _ => plain_mono (fun u w' ⟨_, e⟩ => by rw [e]; exact ⟨hC, Below.refl _ _⟩) (run w hC)
  · unfold Out Res at hu
    rw [if_pos hw, hT] at hu
    obtain ⟨w, hC, hK, hp⟩ := hu
    obtain ⟨x, _, e1, e2, _⟩ := plain_and hp (run w hC)
    rw [← e1, e2]; exact h2
theorem lex_rel {Φ : Rel} (hw : Region.wanted o (yielded ops a.tmps) = true) (hT : dstRel T o = some Φ)
    (h1 : ∀ w', Below w.heap.size w w' → Known T o a w' → grows P o a w' fun v w'' => Below w'.heap.size w' w'' ∧ Φ w'' v)
    (h : ∀ v w', Below w.heap.size w w' → Φ w' v → Lex P ops (Reg w) T Q l (a.put o.dst v)) : Lex P ops (Reg w) T Q (o :: l) a := by
  refine ⟨fun _ => ?_, fun u hu => ?_⟩
  · unfold Safe
    rw [hT]
    intro w' hC hK
    have hg := h1 w' (reg_iff.1 hC) hK
    unfold grows at hg ⊢
    generalize (execOp a.eval o).run P w' = r at *
    cases r with
    | ok n w1 =>
      cases n <;> first | exact ⟨reg_on hC hg.1, hg⟩ | exact hg.elim | skip
      exact Calls.mono hg fun e w2 ⟨v, he, hv⟩ => ⟨v, he, reg_on hC hv.1, hv⟩
    | halt x w1 => exact hg.elim
  · unfold Out Res at hu
    rw [if_pos hw, hT] at hu
    obtain ⟨w', hC, hΦ⟩ := hu
    exact h u w' (reg_iff.1 hC) hΦ
end
theorem Known.at_ {o : Oper} {a : Act} {w : World} (hK : Known T o a w) (t : Nat) (ht : (opTmps o).contains t = true) {Φ : Rel} (hT : look T t = some Φ) (hne : a.eval (.tmp t) ≠ undef) : Φ w (a.eval (.tmp t)) :=
  hK t (List.contains_iff_mem.1 ht) Φ hT hne
def isC (c : Value) : Rel := fun _ v => v = c
theorem isC_stable (c : Value) : ∀ w w' v, Below w.heap.size w w' → isC c w v → isC c w' v := fun _ _ _ _ h => h
end
end Go.Proofs.YtllogmokadcfmaaGreat.Grow
