/-
  Some texts of this claim, one behind the other: GrowW. What each proves, and its condition, stands at its head.
-/
import Derived.Test.YtllogmokadcfmaaGreatZB12
import Derived.Test.YtllogmokadcfmaaGreatZB1
import Derived.StillTail
/-
  A region that draws its order, whose operations and callees may make memory, and of which one operation writes (an append onto a row of the call's own, a store): all that read or make stand ahead of it by force; what may stand behind it only reckons. Walked once, in the order of the text. No condition. Of no program.
-/
namespace Go.Proofs.YtllogmokadcfmaaGreat.Grow
open Go Go.RowKit
set_option linter.unusedVariables false
inductive Kd where
  | early | wr | late
def kdOf (m i : Nat) : Kd := if i < m then .early else if i = m then .wr else .late
theorem kd_early {m i : Nat} (h : i < m) : kdOf m i = .early := if_pos h
theorem kd_wr {m : Nat} : kdOf m m = .wr := by simp [kdOf]
theorem kd_late {m i : Nat} (h : m < i) : kdOf m i = .late := by unfold kdOf; rw [if_neg (by omega), if_neg (by omega)]
abbrev Wr := World → Value → World → Prop
section
variable {P : Program} {ops : Array Oper} {md : Region.Mode} {C : World → Prop} {T : List (Nat × Rel)} {S : Wr} {m : Nat}
def KnownAll (T : List (Nat × Rel)) (a : Act) (w : World) : Prop := ∀ t Φ, look T t = some Φ → a.eval (.tmp t) ≠ undef → Φ w (a.eval (.tmp t))
theorem KnownAll.at_ {a : Act} {w : World} (hK : KnownAll T a w) (t : Nat) {Φ : Rel} (hT : look T t = some Φ) (hne : a.eval (.tmp t) ≠ undef) : Φ w (a.eval (.tmp t)) := hK t Φ hT hne
theorem KnownAll.put {oi : Oper} {a : Act} {v : Value} {w : World} (hx : ∀ d, oi.dst = some d → look T d = none) : KnownAll T (a.put oi.dst v) w ↔ KnownAll T a w := by
  unfold KnownAll
  have e : ∀ t Φ, look T t = some Φ → (a.put oi.dst v).eval (.tmp t) = a.eval (.tmp t) := fun t Φ hl => put_other a oi.dst t v fun hd => by
    rw [hx t hd] at hl; cases hl
  constructor
  · intro h t Φ hl; rw [← e t Φ hl]; exact h t Φ hl
  · intro h t Φ hl; rw [e t Φ hl]; exact h t Φ hl
def SafeK (k : Kd) (S : Wr) (P : Program) (C : World → Prop) (T : List (Nat × Rel)) (o : Oper) (a : Act) : Prop := match k with
  | .early => Safe P C T o a
  | .wr => ∀ w, C w → KnownAll T a w → grows P o a w fun v w' => S w v w'
  | .late => ∃ v, ∀ w, plain P o a w fun u w' => u = v ∧ w' = w
def ResK (k : Kd) (S : Wr) (P : Program) (C : World → Prop) (T : List (Nat × Rel)) (o : Oper) (a : Act) (v : Value) : Prop := match k with
  | .early => Res P C T o a v
  | .wr => ∃ w w', C w ∧ S w v w'
  | .late => ∀ w, plain P o a w fun u w' => u = v ∧ w' = w
def FineK (k : Kd) (S : Wr) (P : Program) (ops : Array Oper) (C : World → Prop) (T : List (Nat × Rel)) (o : Oper) (a : Act) : Prop :=
  Region.wanted o (yielded ops a.tmps) = true → SafeK k S P C T o a
def OutK (k : Kd) (S : Wr) (P : Program) (ops : Array Oper) (C : World → Prop) (T : List (Nat × Rel)) (o : Oper) (a : Act) (v : Value) : Prop :=
  if Region.wanted o (yielded ops a.tmps) = true then ResK k S P C T o a v else v = undef
theorem FineK.put {k : Kd} {oi oj : Oper} {a : Act} {v : Value} (hx : k = .wr → ∀ d, oi.dst = some d → look T d = none) (h1 : ∀ d, oi.dst = some d → d ∉ oj.looksAt ops) (hs : ∀ cs b, oj.op ≠ .select cs b) : FineK k S P ops C T oj (a.put oi.dst v) ↔ FineK k S P ops C T oj a := by
  cases k <;> unfold FineK SafeK
  · unfold Safe grows plain
    simp only [execOp_put oj hs a oi.dst v h1, wanted_put oj a oi.dst v h1, Known.put h1]
  · unfold grows
    simp only [execOp_put oj hs a oi.dst v h1, wanted_put oj a oi.dst v h1, KnownAll.put (hx rfl)]
  · unfold plain
    simp only [execOp_put oj hs a oi.dst v h1, wanted_put oj a oi.dst v h1]
theorem OutK.put {k : Kd} {oi oj : Oper} {a : Act} {v u : Value} (h1 : ∀ d, oi.dst = some d → d ∉ oj.looksAt ops) (hs : ∀ cs b, oj.op ≠ .select cs b) : OutK k S P ops C T oj (a.put oi.dst v) u ↔ OutK k S P ops C T oj a u := by
  cases k <;> unfold OutK ResK
  · unfold Res plain
    simp only [execOp_put oj hs a oi.dst v h1, wanted_put oj a oi.dst v h1, Known.put h1]
  · simp only [wanted_put oj a oi.dst v h1]
  · unfold plain
    simp only [execOp_put oj hs a oi.dst v h1, wanted_put oj a oi.dst v h1]
def Ahead (ops : Array Oper) (T : List (Nat × Rel)) (m : Nat) : Prop := ∀ (i : Nat) (o : Oper), ops[i]? = some o → m ≤ i → dstRel T o = none
theorem none_told {o : Oper} (h : dstRel T o = none) {t : Nat} {Φ : Rel} (hd : o.dst = some t) (hl : look T t = some Φ) : False := by
  unfold dstRel at h
  rw [hd] at h
  simp only [Option.bind_some] at h
  rw [hl] at h
  cases h
theorem Inv.put_none {listed : Array Bool} {a : Act} {w : World} {i : Nat} {o : Oper} {v : Value} (hS : AllStable T) (hi : ops[i]? = some o) (h : Inv ops T listed a w) (hT : dstRel T o = none) : Inv ops T (listed.setIfInBounds i true) (a.put o.dst v) w :=
  h.put hS hi (Below.refl _ _) fun t Φ hd hl _ => (none_told hT hd hl).elim
theorem kdOf_cases (m i : Nat) : (i < m ∧ kdOf m i = .early) ∨ (i = m ∧ kdOf m i = .wr) ∨ (m < i ∧ kdOf m i = .late) := by
  rcases Nat.lt_trichotomy i m with h | h | h
  · exact .inl ⟨h, kd_early h⟩
  · exact .inr (.inl ⟨h, by subst h; exact kd_wr⟩)
  · exact .inr (.inr ⟨h, kd_late h⟩)
def Closed (md : Region.Mode) (ops : Array Oper) (listed : Array Bool) : Prop := ∀ j oj, ops[j]? = some oj → listed.getD j false = true → ∀ e ∈ oj.after, Region.binds md e = true → listed.getD e.on false = true
theorem Closed.set {listed : Array Bool} {i : Nat} (h : Closed md ops listed) (hi : i ∈ Region.ready md ops listed) : Closed md ops (listed.setIfInBounds i true) := by
  obtain ⟨_, oi, hoi, hall⟩ := mem_ready.1 hi
  intro j oj hj hl e he hb
  by_cases hij : i = j
  · subst hij
    have : oj = oi := Option.some.inj (hj.symm.trans hoi)
    subst this
    exact getD_set_true (hall e he hb)
  · rw [getD_set_ne false hij] at hl
    exact getD_set_true (h j oj hj hl e he hb)
theorem sunk {listed : Array Bool} (hs : Region.sinkB md ops m = true) (hc : Closed md ops listed) (hm : listed.getD m false = true) : ∀ (d i : Nat), m - i = d → i < m → listed.getD i false = true := by
  intro d
  induction d using Nat.strongRecOn with
  | _ d ih =>
    intro i hd hi
    have h1 := List.all_eq_true.1 hs i (List.mem_range.2 hi)
    obtain ⟨j, hj, hj2⟩ := List.any_eq_true.1 h1
    simp only [Bool.and_eq_true, decide_eq_true_eq] at hj2
    obtain ⟨oj, hoj, e, he, hb, hon⟩ := Region.waitsFor_spec hj2.2
    have hjm : j ≤ m := by have := List.mem_range.1 hj; omega
    have hl : listed.getD j false = true := by
      by_cases h : j = m
      · subst h; exact hm
      · exact ih (m - j) (by omega) j rfl (by omega)
    have := hc j oj hoj hl e he hb
    rwa [hon] at this
theorem ready_sunk {listed : Array Bool} (hs : Region.sinkB md ops m = true) (hc : Closed md ops listed) (hm : m ∈ Region.ready md ops listed) : ∀ (d i : Nat), m - i = d → i < m → listed.getD i false = true := by
  obtain ⟨_, om, hom, hall⟩ := mem_ready.1 hm
  intro d
  induction d using Nat.strongRecOn with
  | _ d ih =>
    intro i hd hi
    have h1 := List.all_eq_true.1 hs i (List.mem_range.2 hi)
    obtain ⟨j, hj, hj2⟩ := List.any_eq_true.1 h1
    simp only [Bool.and_eq_true, decide_eq_true_eq] at hj2
    obtain ⟨oj, hoj, e, he, hb, hon⟩ := Region.waitsFor_spec hj2.2
    have hjm : j ≤ m := by have := List.mem_range.1 hj; omega
    by_cases h : j = m
    · subst h
      rw [hom] at hoj; injection hoj with hoj; subst hoj
      have := hall e he hb
      rwa [hon] at this
    · have := hc j oj hoj (ih (m - j) (by omega) j rfl (by omega)) e he hb
      rwa [hon] at this
theorem not_listed {listed : Array Bool} {i : Nat} (hi : i ∈ Region.ready md ops listed) : listed.getD i false = false := getD_both (mem_ready.1 hi).1
theorem late_of {listed : Array Bool} {i : Nat} (hs : Region.sinkB md ops m = true) (hc : Closed md ops listed) (hm : m ∈ Region.ready md ops listed) (hi : i ∈ Region.ready md ops listed) (hne : i ≠ m) : m < i := by
  rcases Nat.lt_or_ge m i with h | h
  · exact h
  · have := ready_sunk hs hc hm _ i rfl (by omega)
    rw [not_listed hi] at this
    cases this
def Told (ops : Array Oper) (T : List (Nat × Rel)) (m : Nat) : Prop := ∀ t Φ, look T t = some Φ → ∃ (i : Nat) (o : Oper), i < m ∧ ops[i]? = some o ∧ o.dst = some t
theorem inv_all {listed : Array Bool} {a : Act} {w : World} (hTo : Told ops T m) (h : Inv ops T listed a w) (hall : ∀ i, i < m → listed.getD i false = true) : KnownAll T a w := by
  intro t Φ hl hne
  obtain ⟨i, o, hi, ho, hd⟩ := hTo t Φ hl
  exact h i o t Φ ho (hall i hi) hd hl hne
theorem out_ofK {listed : Array Bool} {a : Act} {w : World} {i : Nat} {o : Oper} (hA : Ahead ops T m) (hTo : Told ops T m) (hsk : Region.sinkB md ops m = true) (hcl : Closed md ops listed) (hS : AllStable T) (hW : Waits md ops T) (hi : ops[i]? = some o) (hr : i ∈ Region.ready md ops listed) (hC : C w) (h : Inv ops T listed a w)
    (hf : FineK (kdOf m i) S P ops C T o a) : ∃ v w', OutK (kdOf m i) S P ops C T o a v ∧ C w' ∧ Inv ops T (listed.setIfInBounds i true) (a.put o.dst v) w' := by
  rcases kdOf_cases m i with ⟨hm, e⟩ | ⟨hm, e⟩ | ⟨hm, e⟩
  · rw [e] at hf ⊢
    exact out_of hS hW hi hr hC h hf
  · rw [e] at hf ⊢
    have hT := hA i o hi (by omega)
    by_cases hw : Region.wanted o (yielded ops a.tmps) = true
    · subst hm
      obtain ⟨v, w', hv⟩ := grows_some (hf hw w hC (inv_all hTo h fun k hk => ready_sunk hsk hcl hr _ k rfl hk))
      exact ⟨v, w, by unfold OutK; rw [if_pos hw]; exact ⟨w, w', hC, hv⟩, hC, h.put_none hS hi hT⟩
    · exact ⟨undef, w, by unfold OutK; rw [if_neg hw], hC, h.put_none hS hi hT⟩
  · rw [e] at hf ⊢
    have hT := hA i o hi (by omega)
    by_cases hw : Region.wanted o (yielded ops a.tmps) = true
    · obtain ⟨v, hv⟩ := hf hw
      exact ⟨v, w, by unfold OutK; rw [if_pos hw]; exact hv, hC, h.put_none hS hi hT⟩
    · exact ⟨undef, w, by unfold OutK; rw [if_neg hw], hC, h.put_none hS hi hT⟩
def gOpK (P : Program) (ops : Array Oper) (C : World → Prop) (T : List (Nat × Rel)) (S : Wr) (m : Nat) (listed' : Array Bool) (i : Nat) (K : Act → Prop) (a : Act) : Prop :=
  ∀ o, ops[i]? = some o → FineK (kdOf m i) S P ops C T o a ∧ ∀ v, OutK (kdOf m i) S P ops C T o a v → Joint ops C T listed' (a.put o.dst v) → K (a.put o.dst v)
def wpAllK (P : Program) (md : Region.Mode) (ops : Array Oper) (C : World → Prop) (T : List (Nat × Rel)) (S : Wr) (m : Nat) (Q : Array Bool → Act → Prop) : Nat → Array Bool → Act → Prop
  | 0, listed, a => Region.ready md ops listed = [] ∧ Q listed a
  | n + 1, listed, a => (Region.ready md ops listed = [] → Q listed a) ∧
    ∀ i ∈ Region.ready md ops listed, gOpK P ops C T S m (listed.setIfInBounds i true) i (wpAllK P md ops C T S m Q n (listed.setIfInBounds i true)) a
def St (ops : Array Oper) (C : World → Prop) (T : List (Nat × Rel)) (S : Wr) (m : Nat) (ow : Oper) (listed : Array Bool) (a : Act) (w : World) : Prop :=
  (listed.getD m false = false ∧ C w ∧ Inv ops T listed a w) ∨
  (listed.getD m false = true ∧ ∃ w1 v, C w1 ∧ Inv ops T listed a w1 ∧ S w1 v w ∧ ∀ d, ow.dst = some d → a.eval (.tmp d) = v ∨ a.eval (.tmp d) = undef)
def Alone (ops : Array Oper) (m : Nat) (ow : Oper) : Prop := ∀ (i : Nat) (o : Oper) (d : Nat), ops[i]? = some o → i ≠ m → ow.dst = some d → o.dst ≠ some d
theorem wpOp_of_gOpK {listed : Array Bool} {a : Act} {w : World} {i : Nat} {ow : Oper} {K : Act → Prop} {K' : Act → World → Prop} {Q' : Exit → Act → World → Prop} (hA : Ahead ops T m) (hTo : Told ops T m) (how : ops[m]? = some ow) (hgd : ow.guard = none) (hAl : Alone ops m ow) (hsk : Region.sinkB md ops m = true) (hS : AllStable T) (hW : Waits md ops T)
    (hr : i ∈ Region.ready md ops listed) (hcl : Closed md ops listed) (h : St ops C T S m ow listed a w)
    (hK : ∀ a' w', St ops C T S m ow (listed.setIfInBounds i true) a' w' → K a' → K' a' w') (hh : gOpK P ops C T S m (listed.setIfInBounds i true) i K a) : wpOp P ops Q' i K' a w := by
  obtain ⟨hun, o, hi, _⟩ := mem_ready.1 hr
  obtain ⟨hf, hn⟩ := hh o hi
  have hlt : i < listed.size := by
    rcases Nat.lt_or_ge i listed.size with h' | h'
    · exact h'
    · simp [Array.getElem?_eq_none h'] at hun
  have hun' : listed.getD i false = false := by simp [hlt] at hun ⊢; exact hun
  unfold wpOp
  simp only [hi]
  -- an operation that leaves the world, with no told slot
  have key : ∀ v : Value, i ≠ m → dstRel T o = none → St ops C T S m ow (listed.setIfInBounds i true) (a.put o.dst v) w := by
    intro v him hT
    rcases h with ⟨g1, g2, g3⟩ | ⟨g1, w1, v1, g2, g3, g4, g5⟩
    · exact .inl ⟨by rw [getD_set_ne false him]; exact g1, g2, g3.put_none hS hi hT⟩
    · exact .inr ⟨by rw [getD_set_ne false him]; exact g1, w1, v1, g2, g3.put_none hS hi hT, g4, fun d hd => by
        rw [put_other _ _ _ _ (hAl i o d hi him hd)]; exact g5 d hd⟩
  have joint : ∀ v : Value, dstRel T o = none → Joint ops C T (listed.setIfInBounds i true) (a.put o.dst v) := by
    intro v hT
    rcases h with ⟨g1, g2, g3⟩ | ⟨g1, w1, v1, g2, g3, g4, g5⟩
    · exact ⟨w, g2, g3.put_none hS hi hT⟩
    · exact ⟨w1, g2, g3.put_none hS hi hT⟩
  rcases kdOf_cases m i with ⟨hm, e⟩ | ⟨hm, e⟩ | ⟨hm, e⟩
  · rw [e] at hf hn
    rcases h with ⟨g1, g2, g3⟩ | ⟨g1, _⟩
    · have hs : gOp P ops C T (listed.setIfInBounds i true) i K a := fun o' ho' => by
        rw [hi] at ho'; injection ho' with ho'; subst ho'
        exact ⟨hf, hn⟩
      have := wpOp_of_gOp (Q' := Q') (K' := K') hS hW hr g2 g3 (fun a' w' hC' hI' hk => hK a' w' (.inl ⟨by rw [getD_set_ne false (by omega)]; exact g1, hC', hI'⟩) hk) hs
      unfold wpOp at this
      simpa only [hi] using this
    · have := sunk hsk hcl g1 _ i rfl hm
      rw [this] at hun'
      cases hun'
  · subst hm
    rw [e] at hf hn
    rw [how] at hi
    injection hi with hi
    subst hi
    have hT := hA i ow how (Nat.le_refl _)
    have hw : Region.wanted ow (yielded ops a.tmps) = true := by simp [Region.wanted, hgd]
    rcases h with ⟨g1, g2, g3⟩ | ⟨g1, _⟩
    · rw [if_pos hw]
      refine .inl ?_
      refine wp_of_grows (fun v w' hv => ?_) (hf hw w g2 (inv_all hTo g3 fun k hk => ready_sunk hsk hcl hr _ k rfl hk))
      have hI := g3.put_none (v := v) hS how hT
      refine hK _ _ (.inr ⟨by simp [hlt], w, v, g2, hI, hv, fun d hd => ?_⟩) (hn v (by unfold OutK; rw [if_pos hw]; exact ⟨w, w', g2, hv⟩) ⟨w, g2, hI⟩)
      rw [hd]
      exact put_same a d v
    · rw [g1] at hun'
      cases hun'
  · rw [e] at hf hn
    have hT := hA i o hi (by omega)
    by_cases hw : Region.wanted o (yielded ops a.tmps) = true
    · rw [if_pos hw]
      refine .inl ?_
      obtain ⟨v, hv⟩ := hf hw
      refine wp_of_grows (R := fun u w' => u = v ∧ w' = w) (fun u w' hu => ?_) (grows_of_plain (hv w))
      obtain ⟨rfl, rfl⟩ := hu
      exact hK _ _ (key u (by omega) hT) (hn u (by unfold OutK; rw [if_pos hw]; exact hv) (joint u hT))
    · rw [if_neg hw]
      exact hK _ _ (key undef (by omega) hT) (hn undef (by unfold OutK; rw [if_neg hw]) (joint undef hT))
theorem wpAny_of_allK {ow : Oper} {Q : Array Bool → Act → Prop} {Q' : Exit → Act → World → Prop} (hA : Ahead ops T m) (hTo : Told ops T m) (how : ops[m]? = some ow) (hgd : ow.guard = none) (hAl : Alone ops m ow) (hsk : Region.sinkB md ops m = true) (hS : AllStable T) (hW : Waits md ops T)
    (hQ : ∀ listed a w, St ops C T S m ow listed a w → Q listed a → Q' .normal a w) : ∀ (n : Nat) (listed : Array Bool) (a : Act) (w : World), Closed md ops listed → St ops C T S m ow listed a w →
    wpAllK P md ops C T S m Q n listed a → wpAny P md ops Q' n listed a w
  | 0, _, _, _, _, hI, h => ⟨h.1, hQ _ _ _ hI h.2⟩
  | n + 1, _, _, _, hc, hI, h => ⟨fun h0 => hQ _ _ _ hI (h.1 h0), fun i hi => wpOp_of_gOpK hA hTo how hgd hAl hsk hS hW hi hc hI (fun a' w' hI' hk => wpAny_of_allK hA hTo how hgd hAl hsk hS hW hQ n _ a' w' (hc.set hi) hI' hk) (h.2 i hi)⟩
theorem wpAllK_first {Q : Array Bool → Act → Prop} {i : Nat} {oi : Oper} (hA : Ahead ops T m) (hTo : Told ops T m) (hsk : Region.sinkB md ops m = true) (hS : AllStable T) (hW : Waits md ops T) (hU : Unique ops T) (hi : ops[i]? = some oi) (hsel : ∀ (j : Nat) (o : Oper) cs b, ops[j]? = some o → o.op ≠ .select cs b) :
    ∀ (n : Nat) (listed : Array Bool) (a : Act),
      (∀ j oj, ops[j]? = some oj → j ≠ i → listed.getD j true = false → (∀ e ∈ oj.after, Region.binds md e = true → e.on ≠ i) → oi.apart ops oj = true) →
      i ∈ Region.ready md ops listed → Closed md ops listed → Joint ops C T listed a →
      gOpK P ops C T S m (listed.setIfInBounds i true) i (wpAllK P md ops C T S m Q n (listed.setIfInBounds i true)) a → wpAllK P md ops C T S m Q (n + 1) listed a := by
  intro n
  induction n with
  | zero =>
    intro listed a _ hr hcl hJ H
    refine ⟨fun h => (by rw [h] at hr; cases hr), fun j hj => ?_⟩
    by_cases hji : j = i
    · subst hji; exact H
    · obtain ⟨w, hC, hI⟩ := hJ
      obtain ⟨hf, hn⟩ := H oi hi
      obtain ⟨v, w', hv, hC', hI'⟩ := out_ofK hA hTo hsk hcl hS hW hi hr hC hI hf
      have := (hn v hv ⟨w', hC', hI'⟩).1
      have h2 := ready_mono hj hji
      rw [this] at h2
      cases h2
  | succ n ih =>
    intro listed a hfree hr hcl hJ H
    refine ⟨fun h => (by rw [h] at hr; cases hr), fun j hj => ?_⟩
    by_cases hji : j = i
    · subst hji; exact H
    · obtain ⟨hjun, oj, hoj, hall⟩ := mem_ready.1 hj
      have hnot : ∀ e ∈ oj.after, Region.binds md e = true → e.on ≠ i := fun e he hb heq => by
        have h1 := hall e he hb
        have h0 := (mem_ready.1 hr).1
        rw [heq] at h1
        rcases Nat.lt_or_ge i listed.size with h' | h'
        · simp [h'] at h0 h1; rw [h0] at h1; cases h1
        · simp [Array.getElem?_eq_none h'] at h1
      obtain ⟨h1, h2, h3⟩ := Oper.apart_spec (hfree j oj hoj hji hjun hnot)
      have hsi := fun cs b => hsel i oi cs b hi
      have hsj := fun cs b => hsel j oj cs b hoj
      obtain ⟨hf, hn⟩ := H oi hi
      intro o ho
      rw [hoj] at ho; injection ho with ho; subst ho
      have hx1 : kdOf m j = .wr → ∀ d, oi.dst = some d → look T d = none := fun e d hd => by
        have hjm : j = m := by rcases kdOf_cases m j with ⟨_, e'⟩ | ⟨h, _⟩ | ⟨_, e'⟩ <;> first | exact h | (rw [e'] at e; cases e)
        subst hjm
        have hlt := late_of hsk hcl hj hr (fun h => hji h.symm)
        cases hl : look T d with
        | none => rfl
        | some Φ => exact (none_told (hA i oi hi (by omega)) hd hl).elim
      have hx3 : kdOf m i = .wr → ∀ d, oj.dst = some d → look T d = none := fun e d hd => by
        have him : i = m := by rcases kdOf_cases m i with ⟨_, e'⟩ | ⟨h, _⟩ | ⟨_, e'⟩ <;> first | exact h | (rw [e'] at e; cases e)
        subst him
        have hlt := late_of hsk hcl hr hj hji
        cases hl : look T d with
        | none => rfl
        | some Φ => exact (none_told (hA j oj hoj (by omega)) hd hl).elim
      have hfj : FineK (kdOf m j) S P ops C T oj a := by
        obtain ⟨w, hC, hI⟩ := hJ
        obtain ⟨v, w', hv, hC', hI'⟩ := out_ofK hA hTo hsk hcl hS hW hi hr hC hI hf
        have := ((hn v hv ⟨w', hC', hI'⟩).2 j (ready_mono hj hji) oj hoj).1
        exact (FineK.put hx1 h1 hsj).1 this
      refine ⟨hfj, fun u hu hJu => ?_⟩
      have hfree' : ∀ k ok, ops[k]? = some ok → k ≠ i → (listed.setIfInBounds j true).getD k true = false →
          (∀ e ∈ ok.after, Region.binds md e = true → e.on ≠ i) → oi.apart ops ok = true := fun k ok hk hki hun hno => by
        refine hfree k ok hk hki ?_ hno
        by_cases hjk : j = k
        · subst hjk; exact hjun
        · rw [getD_set_ne true hjk] at hun; exact hun
      refine ih (listed.setIfInBounds j true) (a.put oj.dst u) hfree' (ready_mono hr (Ne.symm hji)) (hcl.set hj) hJu ?_
      intro o ho
      rw [hi] at ho; injection ho with ho; subst ho
      refine ⟨(FineK.put hx3 h3 hsi).2 hf, fun v hv hJv => ?_⟩
      have hv' := (OutK.put h3 hsi).1 hv
      have hJi := Joint.drop hU hi hoj hji hjun h2 hJv
      have := ((hn v hv' hJi).2 j (ready_mono hj hji) oj hoj).2 u ((OutK.put h1 hsj).2 hu)
      rw [Array.setIfInBounds_comm _ _ hji, ← Act.put_comm a v u h2]
      refine this ?_
      rw [Array.setIfInBounds_comm _ _ (Ne.symm hji), Act.put_comm a v u h2]
      exact hJv
def LastK (ops : Array Oper) (C : World → Prop) (T : List (Nat × Rel)) (S : Wr) (ow : Oper) (Q : Exit → Act → World → Prop) (a : Act) : Prop :=
  ∀ w w1 v, C w1 → (∀ (i : Nat) (o : Oper) (t : Nat) (Φ : Rel), ops[i]? = some o → o.dst = some t → look T t = some Φ → a.eval (.tmp t) ≠ undef → Φ w1 (a.eval (.tmp t))) → S w1 v w → (∀ d, ow.dst = some d → a.eval (.tmp d) = v ∨ a.eval (.tmp d) = undef) → Q .normal a w
def LexK (P : Program) (ops : Array Oper) (C : World → Prop) (T : List (Nat × Rel)) (S : Wr) (m : Nat) (E : Act → Prop) : Nat → List Oper → Act → Prop
  | _, [], a => E a
  | k, o :: l, a => FineK (kdOf m k) S P ops C T o a ∧ ∀ v, OutK (kdOf m k) S P ops C T o a v → LexK P ops C T S m E (k + 1) l (a.put o.dst v)
theorem wpAllK_lex {ow : Oper} {Q : Exit → Act → World → Prop} (hA : Ahead ops T m) (hTo : Told ops T m) (hsk : Region.sinkB md ops m = true) (how : ops[m]? = some ow) (hS : AllStable T) (hW : Waits md ops T) (hU : Unique ops T) (hs : Region.noSelect ops = true) : ∀ (l : List Oper) (k : Nat) (listed : Array Bool) (a : Act), (∀ j, l[j]? = ops[k + j]?) →
    Region.lexFrom md ops l.length k listed = true → listed.size = ops.size → (∀ j, j < k → listed.getD j false = true) → Closed md ops listed → Joint ops C T listed a → LexK P ops C T S m (LastK ops C T S ow Q) k l a →
    wpAllK P md ops C T S m (fun listed a => ∀ w, St ops C T S m ow listed a w → Q .normal a w) l.length listed a
  | [], k, listed, a, hl, hB, hsz, hk, _, _, h => by
    have h0 : ops[k]? = none := by simpa using (hl 0).symm
    have h1 := Array.getElem?_eq_none_iff.1 h0
    have hm := (Array.getElem?_eq_some_iff.1 how).1
    refine ⟨by simpa [Region.lexFrom] using hB, fun w hI => ?_⟩
    rcases hI with ⟨g1, _⟩ | ⟨g1, w1, v, g2, g3, g4, g5⟩
    · rw [hk m (by omega)] at g1; cases g1
    · refine h w w1 v g2 (fun i o t Φ hi hd hT hne => g3 i o t Φ hi (hk i ?_) hd hT hne) g4 g5
      have h2 := (Array.getElem?_eq_some_iff.1 hi).1
      omega
  | o :: l, k, listed, a, hl, hB, hsz, hk, hcl, hJ, h => by
    have h0 : ops[k]? = some o := by simpa using (hl 0).symm
    simp only [List.length_cons, Region.lexFrom, Bool.and_eq_true] at hB
    obtain ⟨⟨hr, hf⟩, hB'⟩ := hB
    have hr' : k ∈ Region.ready md ops listed := by simpa using hr
    refine wpAllK_first hA hTo hsk hS hW hU h0 (Region.noSelect_spec hs) l.length listed a (Region.free_spec h0 hf) hr' hcl hJ ?_
    intro o' ho'
    rw [h0] at ho'; injection ho' with ho'; subst ho'
    refine ⟨h.1, fun v hv hJv => ?_⟩
    refine wpAllK_lex hA hTo hsk how hS hW hU hs l (k + 1) _ _ (fun j => by have := hl (j + 1); simpa [Nat.add_assoc, Nat.add_comm 1 j] using this) hB' (by simpa using hsz) (fun j hj => ?_) (hcl.set hr') hJv (h.2 v hv)
    by_cases hjk : j = k
    · subst hjk
      have := (Array.getElem?_eq_some_iff.1 h0).1
      simp [hsz, this]
    · rw [getD_set_ne false (Ne.symm hjk)]; exact hk j (by omega)
def aheadB (ks : List Nat) (ops : Array Oper) (m : Nat) : Bool :=
  (List.range ops.size).all fun i => decide (i < m) || (match (ops[i]?).bind (·.dst) with | some d => !ks.contains d | none => true)
theorem ahead_of (h : aheadB (T.map Prod.fst) ops m = true) : Ahead ops T m := by
  intro i o hi hm
  simp only [aheadB, List.all_eq_true, List.mem_range] at h
  have := h i (Array.getElem?_eq_some_iff.1 hi).1
  simp only [hi, Option.bind_some, Bool.or_eq_true, decide_eq_true_eq] at this
  unfold dstRel
  cases hd : o.dst with
  | none => rfl
  | some d =>
    rw [hd] at this
    simp only [Option.bind_some]
    cases hl : look T d with
    | none => rfl
    | some Φ =>
      have hc : (T.map Prod.fst).contains d = true := by rw [List.contains_iff_mem]; exact look_keys hl
      rcases this with h' | h'
      · omega
      · simp only [hc] at h'; cases h'
def aloneB (ops : Array Oper) (m : Nat) : Bool :=
  match (ops[m]?).bind (·.dst) with
  | none => true
  | some d => (List.range ops.size).all fun i => i == m || ((ops[i]?).bind (·.dst)) != some d
theorem alone_of {ow : Oper} (how : ops[m]? = some ow) (h : aloneB ops m = true) : Alone ops m ow := by
  intro i o d hi him hd e
  unfold aloneB at h
  simp only [how, Option.bind_some, hd] at h
  rw [List.all_eq_true] at h
  have := h i (List.mem_range.2 (Array.getElem?_eq_some_iff.1 hi).1)
  simp only [Bool.or_eq_true, beq_iff_eq, bne_iff_ne, ne_eq, hi, Option.bind_some, e] at this
  rcases this with h' | h'
  · exact him h'
  · exact h' trivial
def toldB (ks : List Nat) (ops : Array Oper) (m : Nat) : Bool := ks.all fun k => (List.range m).any fun i => (ops[i]?).bind (·.dst) == some k
theorem told_of (h : toldB (T.map Prod.fst) ops m = true) : Told ops T m := by
  intro t Φ hl
  have h1 := List.all_eq_true.1 h t (look_keys hl)
  obtain ⟨i, hi, h2⟩ := List.any_eq_true.1 h1
  rw [beq_iff_eq] at h2
  cases ho : ops[i]? with
  | none => rw [ho] at h2; cases h2
  | some o => rw [ho] at h2; exact ⟨i, o, List.mem_range.1 hi, ho, h2⟩
theorem wp_region_grow_w {id : Nat} {Q : Exit → Act → World → Prop} {a : Act} {w : World} {l : List Oper} (T : List (Nat × Rel)) (ks : List Nat) (m : Nat) (S : Wr) (ow : Oper) (hm : P.follows .mixedOrders = true) (hB : Region.lexB .any l.toArray = true)
    (hk : T.map Prod.fst = ks) (hU : uniqueB ks l.toArray = true) (hD : waitsB .any ks l.toArray = true) (hA : (aheadB ks l.toArray m && toldB ks l.toArray m) = true) (how : l[m]? = some ow) (hgd : ow.guard = none) (hAl : aloneB l.toArray m = true) (hsk : Region.sinkB .any l.toArray m = true)
    (hS : AllStable T) (h : LexK P l.toArray (Reg w) T S m (LastK l.toArray (Reg w) T S ow Q) 0 l a) : (Code.region id l.toArray true).wp P Q a w := by
  subst hk
  simp only [Region.lexB, Bool.and_eq_true] at hB hA
  have how' : l.toArray[m]? = some ow := by simpa using how
  have hC : Reg w { w with drawn := w.drawn + 1 } := reg_iff.2 ((Below.refl _ w).drew)
  have hI : Inv l.toArray T (Array.replicate l.toArray.size false) a { w with drawn := w.drawn + 1 } := fun i o t Φ hi hl _ _ _ => by
    have := (Array.getElem?_eq_some_iff.1 hi).1
    simp at this
    simp [this] at hl
  have hml := (Array.getElem?_eq_some_iff.1 how').1
  refine wp_region_any hm (wpAny_of_allK (S := S) (m := m) (Q := fun listed a => ∀ w', St l.toArray (Reg w) T S m ow listed a w' → Q .normal a w') (ahead_of hA.1) (told_of hA.2) how' hgd (alone_of how' hAl) hsk hS (waits_of hD) (fun listed a w' hI hq => hq w' hI) _ _ _ _
    (fun j oj hj hl => by rw [getD_replicate_false] at hl; cases hl) (.inl ⟨getD_replicate_false _ _, hC, hI⟩) ?_)
  have := wpAllK_lex (Q := Q) (C := Reg w) (md := .any) (S := S) (ahead_of hA.1) (told_of hA.2) hsk how' hS (waits_of hD) (unique_of hU) hB.1 l 0 (Array.replicate l.toArray.size false) a (by simp) (by simpa using hB.2) (by simp) (fun j hj => by omega) (fun j oj hj hl => by rw [getD_replicate_false] at hl; cases hl) ⟨_, hC, hI⟩ h
  simpa using this
/-! The steps of the lexical walk. -/
section
variable {w : World} {E : Act → Prop} {o : Oper} {l : List Oper} {a : Act} {k : Nat}
theorem lexK_nil (h : E a) : LexK P ops C T S m E k [] a := h
theorem lexK_skip (hk : k < m) (hw : Region.wanted o (yielded ops a.tmps) = false) (h : LexK P ops C T S m E (k + 1) l (a.put o.dst undef)) : LexK P ops C T S m E k (o :: l) a := by
  refine ⟨fun h' => (by rw [hw] at h'; cases h'), fun v hv => ?_⟩
  unfold OutK at hv
  rw [hw, if_neg (by simp)] at hv
  subst hv; exact h
theorem lexK_quiet (hk : k < m) (hw : Region.wanted o (yielded ops a.tmps) = true) (hT : dstRel T o = none) (hs : simpleB o.op = true)
    (h : ∀ K : Act → Prop, (∀ a, LexK P ops C T S m E (k + 1) l a → K a) → o.quiet P a C K) : LexK P ops C T S m E k (o :: l) a := by
  obtain ⟨v, h1, h2⟩ := h (LexK P ops C T S m E (k + 1) l) (fun _ h => h)
  have run : ∀ w, C w → plain P o a w (fun u w' => u = v ∧ w' = w) := fun w hC => by
    have hq := h1 w hC
    have hne := noEnter_simple (P := P) (ρ := a.eval) (w := w) hs
    unfold Oper.quietAt at hq
    unfold plain
    generalize (execOp a.eval o).run P w = r at *
    cases r with
    | ok n w' =>
      cases n <;> simp only [Oper.quietUpon] at hq <;> first | exact ⟨hq.2, hq.1⟩ | exact ⟨hq.2.symm, hq.1⟩ | exact hne.elim
    | halt x w' => exact hq.elim
  unfold LexK
  rw [kd_early hk]
  refine ⟨fun _ => ?_, fun u hu => ?_⟩
  · unfold SafeK Safe
    rw [hT]
    exact fun w hC _ => plain_mono (fun u w' ⟨_, e⟩ => by rw [e]; exact ⟨hC, Below.refl _ _⟩) (run w hC)
  · unfold OutK ResK Res at hu
    rw [if_pos hw, hT] at hu
    obtain ⟨w, hC, hK, hp⟩ := hu
    obtain ⟨x, _, e1, e2, _⟩ := plain_and hp (run w hC)
    rw [← e1, e2]; exact h2
theorem lexK_rel {Φ : Rel} (hk : k < m) (hw : Region.wanted o (yielded ops a.tmps) = true) (hT : dstRel T o = some Φ)
    (h1 : ∀ w', Below w.heap.size w w' → Known T o a w' → grows P o a w' fun v w'' => Below w'.heap.size w' w'' ∧ Φ w'' v)
    (h : ∀ v w', Below w.heap.size w w' → Φ w' v → LexK P ops (Reg w) T S m E (k + 1) l (a.put o.dst v)) : LexK P ops (Reg w) T S m E k (o :: l) a := by
  unfold LexK
  rw [kd_early hk]
  refine ⟨fun _ => ?_, fun u hu => ?_⟩
  · unfold SafeK Safe
    rw [hT]
    intro w' hC hK
    have hg := h1 w' (reg_iff.1 hC) hK
    unfold grows at hg ⊢
    generalize (execOp a.eval o).run P w' = r at *
    cases r with
    | ok n w1 =>
      cases n <;> first | exact ⟨reg_on hC hg.1, hg⟩ | exact hg.elim | skip
      exact Calls.mono hg fun e w2 ⟨v, he, hv⟩ => ⟨v, he, reg_on hC hv.1, hv⟩
    | halt x w1 => exact hg.elim
  · unfold OutK ResK Res at hu
    rw [if_pos hw, hT] at hu
    obtain ⟨w', hC, hΦ⟩ := hu
    exact h u w' (reg_iff.1 hC) hΦ
theorem lexK_wr (hk : k = m) (hw : Region.wanted o (yielded ops a.tmps) = true)
    (h1 : ∀ w', Below w.heap.size w w' → KnownAll T a w' → grows P o a w' fun v w'' => S w' v w'')
    (h : ∀ v w' w'', Below w.heap.size w w' → S w' v w'' → LexK P ops (Reg w) T S m E (k + 1) l (a.put o.dst v)) : LexK P ops (Reg w) T S m E k (o :: l) a := by
  unfold LexK
  subst hk
  rw [kd_wr]
  refine ⟨fun _ w' hC hK => h1 w' (reg_iff.1 hC) hK, fun u hu => ?_⟩
  unfold OutK ResK at hu
  rw [if_pos hw] at hu
  obtain ⟨w', w'', hC, hS⟩ := hu
  exact h u w' w'' (reg_iff.1 hC) hS
end
end
theorem grows_append {P : Program} {o : Oper} {a : Act} {w : World} {R : Value → World → Prop} (s x : Operand) (t : TypeId)
    (ho : o.op = .call { callee := .builtin .append, args := #[s, x], argTypes := #[t, t] })
    (base : Nat) (e : TypeId) (i : TypeInfo) (z : Value) (size bytes : Nat) (ht : P.underlying t = some (.slice e)) (hi : P.info? e = some i) (hz : i.zero = some z)
    (hsize : i.size = size) (hby : i.bytes = bytes) (hzs : z.cells.size = size) (hsz : 0 < size)
    (v : Value) (n : Nat) (xs : List Value) (hs : a.eval s = v) (hown : w.ownsRow base e size v n xs)
    (B : Nat) (A : Option Addr) (m c : Nat) (news : List Value) (hx : a.eval x = .slice A m c) (hr : Reads w B size A m news) (h1 : ∀ u ∈ news, u.oneCell' = true)
    (h63 : n + m ≤ maxLen) (hbytes : (n + m) * bytes ≤ 140737488355328) (hbase : base ≤ w.heap.size)
    (h : ∀ v' w', w'.ownsRow base e size v' (n + m) (xs ++ news) → w.grownBy w' v.ownBlock → (v'.ownBlock = v.ownBlock ∨ v'.ownBlock = some w.heap.size) → R v' w') : grows P o a w R := by
  obtain ⟨v', w', hrun, h2, h3, h4⟩ := run_append_any (P := P) w base t o.type e i z size bytes ht hi hz hsize hby hzs hsz v n xs hown B A m c news hr h1 h63 hbytes hbase
  unfold grows execOp
  simp only [ho, resolve, invoke, builtin, Sem.run_bind, Sem.run_pure, Result.andThen_ok, List.map_toArray, List.map_cons, List.map_nil, hs, hx, hrun]
  exact h v' w' h2 h3 h4
end Go.Proofs.YtllogmokadcfmaaGreat.Grow
