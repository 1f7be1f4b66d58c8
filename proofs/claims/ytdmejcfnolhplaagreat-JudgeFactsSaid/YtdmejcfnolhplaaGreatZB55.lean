/-
  Some texts of this claim, one behind the other: GrowT, ProofMark, JudgeFactsProof. What each proves, and its condition, stands at its head.
-/
import Derived.Test.YtdmejcfnolhplaaGreatZB9
import Derived.OrdersIn
import Derived.Test.YtdmejcfnolhplaaGreatZB38
import Derived.Test.YtdmejcfnolhplaaGreatZB36
import Derived.Deep.OwnRows
import Derived.Test.YtdmejcfnolhplaaGreatRows
import Derived.Test.YtdmejcfnolhplaaGreatZB14
import Derived.Test.YtdmejcfnolhplaaGreatZB52
import Derived.Test.YtdmejcfnolhplaaGreatZB54
import Derived.Test.YtdmejcfnolhplaaGreatZB37
import Derived.WalkKit
import Derived.ProofKit
import Derived.OpenShut
import Derived.ShutString
import Derived.ChangeOld
import Derived.Below
/-
  A region that draws its order, inside a fence, whose operations call nothing and of which two store, one behind the other, while all others yield the same in each of the three worlds (ahead of the stores, between them, behind them): it is walked once, in the order of the text. No condition. Of no program.
-/
namespace Go.Proofs.YtdmejcfnolhplaaGreat.Grow.T
open Go Go.RowKit
set_option linter.unusedVariables false
def run1 (P : Program) (o : Oper) (a : Act) (w : World) (v : Value) (w' : World) : Prop :=
  (execOp a.eval o).run P w = .ok (.value v) w' ∨ ((execOp a.eval o).run P w = .ok .skip w' ∧ v = undef)
def step3 (P : Program) (W0 W1 W2 : World) (m z k : Nat) (o : Oper) (a : Act) (v : Value) : Prop :=
  if k = m then run1 P o a W0 v W1 else if k = z then run1 P o a W1 v W2 else run1 P o a W0 v W0 ∧ run1 P o a W1 v W1 ∧ run1 P o a W2 v W2
def Runs (P : Program) (W0 W1 W2 : World) (m z : Nat) (E : Act → Prop) : Nat → List Oper → Act → Prop
  | _, [], a => E a
  | k, o :: l, a => ∃ v, step3 P W0 W1 W2 m z k o a v ∧ Runs P W0 W1 W2 m z E (k + 1) l (a.put o.dst v)
def puts : List Oper → List Value → Act → Act
  | o :: l, v :: vs, a => puts l vs (a.put o.dst v)
  | _, _, a => a
theorem puts_succ : ∀ (l : List Oper) (vs : List Value) (j : Nat) (o : Oper) (v : Value) (a : Act), l[j]? = some o → vs[j]? = some v → puts (l.take (j + 1)) (vs.take (j + 1)) a = (puts (l.take j) (vs.take j) a).put o.dst v
  | o' :: l, v' :: vs, 0, o, v, a, h1, h2 => by
    simp at h1 h2
    subst h1 h2
    simp [puts]
  | o' :: l, v' :: vs, j + 1, o, v, a, h1, h2 => by
    simp only [List.getElem?_cons_succ] at h1 h2
    simp only [List.take_succ_cons, puts]
    exact puts_succ l vs j o v _ h1 h2
  | [], _, _, _, _, _, h1, _ => by simp at h1
  | _ :: _, [], _, _, _, _, _, h2 => by simp at h2
section
variable {P : Program} {W0 W1 W2 : World} {m z : Nat} {E : Act → Prop}
theorem runs_vals : ∀ (l : List Oper) (k : Nat) (a : Act), Runs P W0 W1 W2 m z E k l a →
    ∃ vs : List Value, vs.length = l.length ∧ (∀ j o, l[j]? = some o → ∃ v, vs[j]? = some v ∧ step3 P W0 W1 W2 m z (k + j) o (puts (l.take j) (vs.take j) a) v) ∧ E (puts l vs a)
  | [], k, a, h => ⟨[], rfl, fun j o h => by simp at h, h⟩
  | o :: l, k, a, ⟨v, h1, h2⟩ => by
    obtain ⟨vs, e1, e2, e3⟩ := runs_vals l (k + 1) _ h2
    refine ⟨v :: vs, by simp [e1], fun j o' hj => ?_, e3⟩
    cases j with
    | zero =>
      simp at hj
      subst hj
      exact ⟨v, rfl, h1⟩
    | succ j =>
      rw [List.getElem?_cons_succ] at hj
      obtain ⟨u, g1, g2⟩ := e2 j o' hj
      refine ⟨u, by rw [List.getElem?_cons_succ]; exact g1, ?_⟩
      simp only [List.take_succ_cons, puts]
      rwa [show k + (j + 1) = k + 1 + j by omega]
end
section
variable {ops : Array Oper} {val : Nat → Value}
def dstOf (ops : Array Oper) (j : Nat) : Option Tmp := (ops[j]?).bind (·.dst)
def fill (ops : Array Oper) (val : Nat → Value) (L : Nat → Bool) (a : Act) : Nat → Act
  | 0 => a
  | k + 1 => if L k = true then (fill ops val L a k).put (dstOf ops k) (val k) else fill ops val L a k
theorem fill_step (L : Nat → Bool) (a : Act) (k : Nat) : fill ops val L a (k + 1) = if L k = true then (fill ops val L a k).put (dstOf ops k) (val k) else fill ops val L a k := rfl
def Uniq (ops : Array Oper) : Prop := ∀ i j d, dstOf ops i = some d → dstOf ops j = some d → i = j
theorem fill_congr {L M : Nat → Bool} {a : Act} : ∀ k, (∀ j, j < k → L j = M j) → fill ops val L a k = fill ops val M a k
  | 0, _ => rfl
  | k + 1, h => by
    rw [fill_step, fill_step, fill_congr k (fun j hj => h j (by omega)), h k (by omega)]
theorem fill_none {L : Nat → Bool} {a : Act} : ∀ k, (∀ j, j < k → L j = false) → fill ops val L a k = a
  | 0, _ => rfl
  | k + 1, h => by
    rw [fill_step, h k (by omega), fill_none k (fun j hj => h j (by omega))]
    simp
theorem fill_set (hU : Uniq ops) {L M : Nat → Bool} {a : Act} {i : Nat} (hi : L i = false) (hM : ∀ j, M j = if j = i then true else L j) : ∀ k, i < k → fill ops val M a k = (fill ops val L a k).put (dstOf ops i) (val i)
  | 0, h => by omega
  | k + 1, h => by
    by_cases e : i = k
    · subst e
      have h1 : fill ops val M a i = fill ops val L a i := fill_congr i fun j hj => by rw [hM, if_neg (by omega)]
      rw [fill_step, fill_step, hM, if_pos rfl, hi, h1]
      simp
    · have ih := fill_set hU (a := a) hi hM k (by omega)
      have e2 : M k = L k := by rw [hM, if_neg (fun h => e h.symm)]
      rw [fill_step, fill_step, e2, ih]
      by_cases hk : L k = true
      · rw [if_pos hk, if_pos hk]
        exact Act.put_comm _ _ _ fun d h1 h2 => e (hU i k d h1 h2)
      · rw [if_neg hk, if_neg hk]
theorem put_sizeT (a : Act) (d : Option Tmp) (v : Value) : (a.put d v).tmps.size = a.tmps.size := by
  cases d with
  | none => rfl
  | some d => simp [Act.put]
theorem fill_size {L : Nat → Bool} {a : Act} : ∀ k, (fill ops val L a k).tmps.size = a.tmps.size
  | 0 => rfl
  | k + 1 => by
    rw [fill_step]
    split
    · rw [put_sizeT, fill_size k]
    · exact fill_size k
theorem eval_put_same (a : Act) (t : Nat) (v : Value) : (a.put (some t) v).eval (.tmp t) = if t < a.tmps.size then v else undef := by
  simp only [Act.put, Act.eval]
  by_cases h : t < a.tmps.size
  · simp [h]
  · simp [h]
theorem fill_eval {L M : Nat → Bool} {a : Act} {t : Nat} : ∀ k, (∀ j, j < k → dstOf ops j = some t → L j = M j) → (fill ops val L a k).eval (.tmp t) = (fill ops val M a k).eval (.tmp t)
  | 0, _ => rfl
  | k + 1, h => by
    have ih := fill_eval (L := L) (M := M) (a := a) k fun j hj => h j (by omega)
    by_cases hd : dstOf ops k = some t
    · have e := h k (by omega) hd
      rw [fill_step, fill_step, e]
      split
      · rw [hd, eval_put_same, eval_put_same, fill_size, fill_size]
      · exact ih
    · have key : ∀ N : Nat → Bool, (fill ops val N a (k + 1)).eval (.tmp t) = (fill ops val N a k).eval (.tmp t) := fun N => by
        rw [fill_step]
        split
        · exact put_other _ _ _ _ hd
        · rfl
      rw [key, key, ih]
theorem fill_exec {L M : Nat → Bool} {a : Act} {o : Oper} (k : Nat) (hs : ∀ cs b, o.op ≠ .select cs b) (h : ∀ t, t ∈ o.looksAt ops → ∀ j, j < k → dstOf ops j = some t → L j = M j) :
    execOp (fill ops val L a k).eval o = execOp (fill ops val M a k).eval o :=
  execOp_congr o hs fun x hx => by
    cases x with
    | tmp t => exact fill_eval k (h t (List.mem_append_left _ (List.mem_filterMap.2 ⟨.tmp t, by simpa using hx, rfl⟩)))
    | _ => rfl
end
/-! The form of the region, as a Bool. -/
def plainOp (o : Oper) : Bool := o.guard.isNone && (match o.op with | .defer _ => false | .select _ _ => false | _ => true)
def uniqB (ops : Array Oper) : Bool :=
  (List.range ops.size).all fun i => (List.range ops.size).all fun j => i == j || (dstOf ops i).isNone || (dstOf ops i != dstOf ops j)
def downB (md : Region.Mode) (ops : Array Oper) : Bool :=
  (List.range ops.size).all fun i => match ops[i]? with | some o => o.after.all fun e => !Region.binds md e || decide (e.on < i) | none => true
def dataB (md : Region.Mode) (ops : Array Oper) : Bool :=
  (List.range ops.size).all fun i => match ops[i]? with
    | some o => (List.range ops.size).all fun j => (match dstOf ops j with | some d => !(o.looksAt ops).contains d | none => true) || (decide (j < i) && o.after.any fun e => Region.binds md e && e.on == j)
    | none => true
def okB (md : Region.Mode) (ops : Array Oper) (m z : Nat) : Bool :=
  (ops.all plainOp && uniqB ops) && (downB md ops && dataB md ops) && (decide (m < z ∧ z < ops.size) && (match ops[z]? with | some o => o.after.any fun e => Region.binds md e && e.on == m | none => false))
section
variable {F : Fence} {n : Nat} {P : Program} {ops : Array Oper} {md : Region.Mode} {Q : Exit → Act → World → Prop}
theorem wpAnyIn_of_inv (I : Array Bool → Act → World → Prop) (hsz : ∀ listed a w, I listed a w → listed.size = ops.size)
    (hstep : ∀ listed a w, I listed a w → ∀ i ∈ Region.ready md ops listed, wpOpIn F n P ops Q i (I (listed.setIfInBounds i true)) a w)
    (hend : ∀ listed a w, I listed a w → Region.ready md ops listed = [] → Q .normal a w) :
    ∀ (fuel : Nat) (listed : Array Bool) (a : Act) (w : World), I listed a w → listed.toList.countP (fun b => !b) ≤ fuel → wpAnyIn F n P md ops Q fuel listed a w
  | 0, listed, a, w, hI, hc => by
    have hr : Region.ready md ops listed = [] := by
      refine List.eq_nil_iff_forall_not_mem.2 fun j hj => ?_
      have h1 := (mem_ready.1 hj).1
      have h2 := List.countP_eq_zero.1 (Nat.le_zero.1 hc)
      rcases Nat.lt_or_ge j listed.size with h' | h'
      · have h3 := h2 listed[j] (by simp)
        simp [h'] at h1
        simp [h1] at h3
      · simp [Array.getElem?_eq_none h'] at h1
    exact ⟨hr, hend _ _ _ hI hr⟩
  | fuel + 1, listed, a, w, hI, hc => by
    refine ⟨fun hr => hend _ _ _ hI hr, fun i hi => ?_⟩
    have h1 := (mem_ready.1 hi).1
    have hlt : i < listed.size := by
      rcases Nat.lt_or_ge i listed.size with h' | h'
      · exact h'
      · simp [Array.getElem?_eq_none h'] at h1
    have h2 : listed[i] = false := by simpa [hlt] using h1
    have h3 : listed.toList.countP (fun b => !b) = (listed.toList.set i true).countP (fun b => !b) + 1 := by
      have hpos : 0 < listed.toList.countP (fun b => !b) := List.countP_pos_iff.2 ⟨listed[i], by simp, by simp [h2]⟩
      have := List.countP_set (p := fun b => !b) (a := true) (l := listed.toList) (i := i) (by simpa using hlt)
      rw [this]
      simp only [Array.getElem_toList, h2, Bool.not_false, Bool.not_true, if_true, Bool.false_eq_true, if_false]
      omega
    have h4 : (listed.setIfInBounds i true).toList.countP (fun b => !b) ≤ fuel := by
      rw [Array.toList_setIfInBounds]
      omega
    exact wpOpIn_mono (fun a' w' hI' => wpAnyIn_of_inv I hsz hstep hend fuel _ a' w' hI' h4) (hstep _ _ _ hI i hi)
theorem all_listed {listed : Array Bool} (hsz : listed.size = ops.size) (hd : downB md ops = true) (hr : Region.ready md ops listed = []) : ∀ j, j < ops.size → listed.getD j false = true := by
  intro j
  induction j using Nat.strongRecOn with
  | ind j ih =>
    intro hj
    cases hl : listed.getD j false with
    | true => rfl
    | false =>
      have : j ∈ Region.ready md ops listed := mem_ready.2 ⟨getD_in (by omega) hl, ops[j], by simp [hj], fun e he hb => by
        have h1 := List.all_eq_true.1 hd j (List.mem_range.2 hj)
        simp only [Array.getElem?_eq_getElem hj] at h1
        have h2 := Array.all_eq_true'.1 h1 e he
        simp only [hb, Bool.not_true, Bool.false_or, decide_eq_true_eq] at h2
        exact ih _ h2 (by omega)⟩
      rw [hr] at this
      cases this
end
theorem uniq_of {ops : Array Oper} (h : uniqB ops = true) : Uniq ops := fun i j d hi hj => by
  have li : i < ops.size := by
    rcases Nat.lt_or_ge i ops.size with h' | h'
    · exact h'
    · simp [dstOf, Array.getElem?_eq_none h'] at hi
  have lj : j < ops.size := by
    rcases Nat.lt_or_ge j ops.size with h' | h'
    · exact h'
    · simp [dstOf, Array.getElem?_eq_none h'] at hj
  have := List.all_eq_true.1 (List.all_eq_true.1 h i (List.mem_range.2 li)) j (List.mem_range.2 lj)
  rw [hi, hj] at this
  simpa using this
section
variable {P : Program} {W0 W1 W2 : World} {m z k : Nat} {E : Act → Prop} {o : Oper} {l : List Oper} {a : Act}
theorem runs_read (hm : k ≠ m) (hz : k ≠ z) (v : Value) (h0 : run1 P o a W0 v W0) (h1 : run1 P o a W1 v W1) (h2 : run1 P o a W2 v W2) (h : Runs P W0 W1 W2 m z E (k + 1) l (a.put o.dst v)) : Runs P W0 W1 W2 m z E k (o :: l) a :=
  ⟨v, by unfold step3; rw [if_neg hm, if_neg hz]; exact ⟨h0, h1, h2⟩, h⟩
theorem runs_first (hm : k = m) (h0 : run1 P o a W0 undef W1) (h : Runs P W0 W1 W2 m z E (k + 1) l (a.put o.dst undef)) : Runs P W0 W1 W2 m z E k (o :: l) a :=
  ⟨undef, by unfold step3; rw [if_pos hm]; exact h0, h⟩
theorem runs_last (hm : k ≠ m) (hz : k = z) (h0 : run1 P o a W1 undef W2) (h : Runs P W0 W1 W2 m z E (k + 1) l (a.put o.dst undef)) : Runs P W0 W1 W2 m z E k (o :: l) a :=
  ⟨undef, by unfold step3; rw [if_neg hm, if_pos hz]; exact h0, h⟩
end
theorem wpIn_region_two {F : Fence} {n : Nat} {P : Program} {id : Nat} {Q : Exit → Act → World → Prop} {a0 : Act} {w : World} {l : List Oper} (m z : Nat) (W1 W2 : World) (hm : P.follows .mixedOrders = true) (hF : ∀ f, F.fn f) (hok : okB .any l.toArray m z = true)
    (hR : Runs P w.drew W1 W2 m z (fun a => Q .normal a W2) 0 l a0) : (Code.region id l.toArray true).wpIn F n P Q a0 w := by
  obtain ⟨vs, hvl, hvs, hE⟩ := runs_vals l 0 a0 hR
  simp only [okB, Bool.and_eq_true, decide_eq_true_eq] at hok
  obtain ⟨⟨⟨hpl, hu⟩, hdn, hda⟩, ⟨hmz, hzl⟩, hza⟩ := hok
  have hU := uniq_of hu
  generalize hops : l.toArray = ops at *
  have hlen : ops.size = l.length := by rw [← hops]; simp
  have hget : ∀ j : Nat, ops[j]? = l[j]? := fun j => by rw [← hops, List.getElem?_toArray]
  obtain ⟨val, hval⟩ : ∃ val : Nat → Value, ∀ j v, vs[j]? = some v → val j = v := ⟨fun j => (vs[j]?).getD undef, fun j v h => by simp [h]⟩
  -- the states of the walk in the order of the text
  have hst : ∀ j, j ≤ ops.size → puts (l.take j) (vs.take j) a0 = fill ops val (fun i => decide (i < j)) a0 ops.size := by
    intro j
    induction j with
    | zero => intro _; rw [fill_none _ (fun i _ => by simp)]; simp [puts]
    | succ j ih =>
      intro hj
      obtain ⟨o, ho⟩ : ∃ o, l[j]? = some o := ⟨l[j]'(by omega), by simp⟩
      obtain ⟨v, hv, _⟩ := hvs j o ho
      rw [puts_succ l vs j o v a0 ho hv, ih (by omega), fill_set hU (L := fun i => decide (i < j)) (M := fun i => decide (i < j + 1)) (i := j) (by simp) (fun i => ?_) ops.size (by omega), hval j v hv]
      · simp only [dstOf, hget, ho, Option.bind_some]
      · by_cases e : i = j
        · subst e; simp
        · rw [if_neg e]; congr 1; apply propext; omega
  refine wpIn_region_any hm ?_
  have hz2 : ∀ listed : Array Bool, Closed .any ops listed → listed.getD z false = true → listed.getD m false = true := fun listed hc hl => by
    obtain ⟨o, ho⟩ : ∃ o, ops[z]? = some o := ⟨ops[z], by simp⟩
    rw [ho] at hza
    simp only [Array.any_eq_true', Bool.and_eq_true, beq_iff_eq] at hza
    obtain ⟨e, he, hb, rfl⟩ := hza
    exact hc z o ho hl e he hb
  have hc0 : Closed .any ops (Array.replicate ops.size false) := by
    intro j oj hj hl
    rw [getD_replicate_false] at hl
    cases hl
  refine wpAnyIn_of_inv (fun listed a w' => listed.size = ops.size ∧ Closed .any ops listed ∧ a = fill ops val (fun j => listed.getD j false) a0 ops.size ∧ w' = if listed.getD z false = true then W2 else if listed.getD m false = true then W1 else w.drew) (fun _ _ _ h => h.1) ?_ ?_ ops.size _ _ _ ⟨by simp, hc0, (fill_none _ (fun j _ => getD_replicate_false _ _)).symm, by simp only [getD_replicate_false]; rfl⟩ (Nat.le_trans List.countP_le_length (by simp))
  · rintro listed a w' ⟨hsz, hcl, rfl, rfl⟩ i hi
    have hcl' := hcl.set hi
    have hun := not_listed hi
    obtain ⟨hun', o, ho, hdep⟩ := mem_ready.1 hi
    have hil : i < ops.size := (Array.getElem?_eq_some_iff.1 ho).1
    have hpo : plainOp o = true := by
      have := Array.all_eq_true'.1 hpl o (Array.mem_of_getElem? ho)
      exact this
    have hg : o.guard = none := by
      simp only [plainOp, Bool.and_eq_true, Option.isNone_iff_eq_none] at hpo
      exact hpo.1
    have hsel : ∀ cs b, o.op ≠ .select cs b := fun cs b e => by simp [plainOp, e] at hpo
    have hdf : ∀ c, o.op ≠ .defer c := fun c e => by simp [plainOp, e] at hpo
    have hol : l[i]? = some o := by rw [← hget]; exact ho
    obtain ⟨v, hv, hs3⟩ := hvs i o hol
    rw [Nat.zero_add, hst i (by omega)] at hs3
    have hdata : ∀ t, t ∈ o.looksAt ops → ∀ j, j < ops.size → dstOf ops j = some t → j < i ∧ listed.getD j false = true := fun t ht j hj hd => by
      have h1 := List.all_eq_true.1 hda i (List.mem_range.2 hil)
      simp only [ho] at h1
      have h2 := List.all_eq_true.1 h1 j (List.mem_range.2 hj)
      simp only [hd, List.contains_iff_mem.2 ht, Bool.not_true, Bool.false_or, Bool.and_eq_true, decide_eq_true_eq, Array.any_eq_true', beq_iff_eq] at h2
      obtain ⟨h3, e, he, hb, rfl⟩ := h2
      exact ⟨h3, hdep e he hb⟩
    have hex : execOp (fill ops val (fun j => listed.getD j false) a0 ops.size).eval o = execOp (fill ops val (fun j => decide (j < i)) a0 ops.size).eval o :=
      fill_exec ops.size hsel fun t ht j hj hd => by
        obtain ⟨h1, h2⟩ := hdata t ht j hj hd
        rw [h2]; simp [h1]
    have hput : (fill ops val (fun j => listed.getD j false) a0 ops.size).put o.dst v = fill ops val (fun j => (listed.setIfInBounds i true).getD j false) a0 ops.size := by
      rw [fill_set hU (L := fun j => listed.getD j false) (M := fun j => (listed.setIfInBounds i true).getD j false) (i := i) hun (fun j => ?_) ops.size hil, hval i v hv]
      · simp only [dstOf, ho, Option.bind_some]
      · by_cases e : j = i
        · subst e; simp [show j < listed.size by omega]
        · rw [if_neg e]; exact getD_set_ne false (fun h => e h.symm)
    have go : ∀ w' w'', run1 P o (fill ops val (fun j => decide (j < i)) a0 ops.size) w' v w'' → (w'' = if (listed.setIfInBounds i true).getD z false = true then W2 else if (listed.setIfInBounds i true).getD m false = true then W1 else w.drew) →
        wpOpIn F n P ops Q i (fun a w' => (listed.setIfInBounds i true).size = ops.size ∧ Closed .any ops (listed.setIfInBounds i true) ∧ a = fill ops val (fun j => (listed.setIfInBounds i true).getD j false) a0 ops.size ∧ w' = if (listed.setIfInBounds i true).getD z false = true then W2 else if (listed.setIfInBounds i true).getD m false = true then W1 else w.drew) (fill ops val (fun j => listed.getD j false) a0 ops.size) w' := fun w' w'' hrun hw'' => by
      unfold wpOpIn
      simp only [ho]
      rw [if_pos (by simp [Region.wanted, hg])]
      refine ⟨fun f _ => hF f, ?_⟩
      rw [Oper.semAt_eq _ _ _ hdf, hex]
      rcases hrun with h | ⟨h, rfl⟩
      · rw [h, Oper.uponIn_value]
        exact ⟨by simpa using hsz, hcl', hput, hw''⟩
      · rw [h, Oper.uponIn_skip]
        exact ⟨by simpa using hsz, hcl', hput, hw''⟩
    have hse : ∀ j, j ≠ i → (listed.setIfInBounds i true).getD j false = listed.getD j false := fun j hj => getD_set_ne false (fun h => hj h.symm)
    have hsi : (listed.setIfInBounds i true).getD i false = true := by simp [show i < listed.size by omega]
    unfold step3 at hs3
    by_cases him : i = m
    · subst him
      rw [if_pos rfl] at hs3
      have hzf : listed.getD z false = false := by
        cases g : listed.getD z false with
        | false => rfl
        | true => rw [hz2 listed hcl g] at hun; cases hun
      rw [hzf, hun]
      exact go _ _ hs3 (by rw [hse z (by omega), hzf, hsi]; rfl)
    · rw [if_neg him] at hs3
      by_cases hiz : i = z
      · subst hiz
        rw [if_pos rfl] at hs3
        have hmt : listed.getD m false = true := by
          rw [← hse m (fun h => him h.symm)]
          exact hz2 _ hcl' hsi
        rw [hun, hmt]
        exact go _ _ hs3 (by rw [hsi]; rfl)
      · rw [if_neg hiz] at hs3
        obtain ⟨r0, r1, r2⟩ := hs3
        have ez := hse z (fun h => hiz h.symm)
        have em := hse m (fun h => him h.symm)
        have fin : ∀ w'' : World, (w'' = if listed.getD z false = true then W2 else if listed.getD m false = true then W1 else w.drew) → w'' = if (listed.setIfInBounds i true).getD z false = true then W2 else if (listed.setIfInBounds i true).getD m false = true then W1 else w.drew := fun w'' h => by rw [ez, em]; exact h
        cases g1 : listed.getD z false with
        | true =>
          exact go _ _ r2 (fin _ (by rw [g1]; rfl))
        | false =>
          cases g2 : listed.getD m false with
          | true =>
            exact go _ _ r1 (fin _ (by rw [g1, g2]; rfl))
          | false =>
            exact go _ _ r0 (fin _ (by rw [g1, g2]; rfl))
  · rintro listed a w' ⟨hsz, hcl, rfl, rfl⟩ hr
    have hall := all_listed hsz hdn hr
    rw [if_pos (hall z hzl)]
    have e := hst ops.size (Nat.le_refl _)
    rw [List.take_of_length_le (by omega), List.take_of_length_le (by omega)] at e
    rw [fill_congr (M := fun i => decide (i < ops.size)) ops.size (fun j hj => by rw [hall j hj]; simp [hj]), ← e]
    exact hE
end Go.Proofs.YtdmejcfnolhplaaGreat.Grow.T
/-
  The contract of the program's mark: which steps of a proof its last one uses. Condition: a proof that may be.
-/
namespace Go.Proofs.YtdmejcfnolhplaaGreat.Proof
open Go Go.RowKit Go.Lib
set_option linter.unusedVariables false
attribute [local go_sem] Oper.semAt_some
def MarksP (l : List Sp) (pre : List (Ip l)) (U : Nat → Bool) : Prop := OrdP l pre → markT l (l.length - pre.length) U = usedT l
theorem marks_start (l : List Sp) : MarksP l [] (fun k => decide (k = l.length - 1)) := fun _ => by rw [List.length_nil, Nat.sub_zero]; rfl
theorem marks_end {l : List Sp} {ys : List (Ip l)} {U : Nat → Bool} (h : MarksP l ys U) (ha : AllP l ys) : U = usedT l := by
  have := h ha.1
  rw [ha.2, Nat.sub_self] at this
  exact this
theorem marks_next {l : List Sp} {pre : List (Ip l)} {U : Nat → Bool} (h : MarksP l pre U) (x : Ip l) (hlt : pre.length < l.length) :
    MarksP l (pre ++ [x]) (if U x.1.1 = true ∧ x.1.2.kind = 4 then setU (setU U x.1.2.a.toNat) x.1.2.b.toNat else U) := fun ho => by
  obtain ⟨h1, h2⟩ := ord_snoc.1 ho
  have e := h h1
  obtain ⟨j, hj⟩ : ∃ j, l.length - pre.length = j + 1 := ⟨l.length - pre.length - 1, by omega⟩
  have hx : x.1.1 = j := by omega
  have hs := x.2
  rw [hx] at hs
  rw [hj, mark_next hs] at e
  rw [List.length_append, List.length_singleton, show l.length - (pre.length + 1) = j by omega, hx]
  exact e
theorem row_kept {W W' : World} {b n : Nat} {t : TypeId} {f : Nat → Value} {row : Option Nat} (h : W.rowIs b t n f) (hg : W.grownBy W' row) (hne : some b ≠ row) : W'.rowIs b t n f := h.of_block (hg.block b h.lt hne)
theorem row_far {W W' : World} {b n B : Nat} {t : TypeId} {f : Nat → Value} {row : Option Nat} (h : W.rowIs b t n f) (hg : W.grownBy W' row) (hr : ∀ r, row = some r → B ≤ r ∧ ∃ o : Obj, W.heap[r]? = some o ∧ o.isCells = false) : W'.rowIs b t n f :=
  row_kept h hg (fun e => by
    obtain ⟨c, hb, _⟩ := h
    obtain ⟨_, o, ho, hc⟩ := hr b e.symm
    rw [hb] at ho; cases ho; cases hc)
theorem blk_row {W W' : World} {b B : Nat} {t : TypeId} {cs : Array Value} {row : Option Nat} (h : Blk W b t cs) (hg : W.grownBy W' row) (hr : ∀ r, row = some r → B ≤ r ∧ ∃ o : Obj, W.heap[r]? = some o ∧ o.isCells = false) : Blk W' b t cs :=
  h.grown hg (fun e => by
    obtain ⟨_, o, ho, hc⟩ := hr b e.symm
    rw [show W.heap[b]? = _ from h] at ho; cases ho; cases hc)
set_option maxRecDepth 100000 in
set_option maxHeartbeats 4000000 in
theorem markPf_any (l : List Sp) (A : Option Addr) (n c : Nat) (w : World) (h : PfOn w A n l) (hok : OkSteps l) (h1 : 1 ≤ n) (hn : n ≤ 1048576) :
    Calls Tryz.prog 35 #[.slice A n c] w fun e w' => e = .returned (.slice (some ⟨w.heap.size, 0, none⟩) n n) ∧ w'.rowIs w.heap.size 4 n (fun j => .bool (usedT l j)) ∧ Below w.heap.size w w' := by
  have hlen := h.len
  have hmk1 := run_make_row' (P := Tryz.prog) 81 4 (.bool false) 1 Tryz.underlying81 (by kernel_rfl) rfl .i64 .i64 n (by omega) (by omega)
  have hbk := hide (fun wx => backP_any A n c wx)
  obtain ⟨m, hm⟩ : ∃ m, n = m + 1 := ⟨n - 1, by omega⟩
  have hw0 : IntKind.i64.wrap ((n : Int) - 1) = (m : Int) := by rw [IntKind.wrap_i64]; omega
  have i1 : (0 : Int) ≤ (m : Int) := by omega
  have i2 : (m : Int) < (n : Int) := by omega
  obtain ⟨cs, hcs⟩ : ∃ cs, cs = (madeCells #[.bool false] n).setIfInBounds m (.bool true) := ⟨_, rfl⟩
  have hsz : cs.size = n := by rw [hcs, Array.size_setIfInBounds]; simp [size_madeCells]
  have hcell : ∀ i, i < cs.size → cs[i]? = some (Value.bool (decide (i = n - 1))) := fun i hi => by
    rw [hcs, Array.getElem?_setIfInBounds]
    have hmz : (madeCells #[Value.bool false] n).size = n := by simp [size_madeCells]
    by_cases e : m = i
    · rw [if_pos e, if_pos (by omega)]; congr 2; symm; exact decide_eq_true (by omega)
    · rw [if_neg e]
      have : (madeCells #[Value.bool false] n)[i]? = some (Value.bool false) := by
        have hi2 : i < n := by omega
        simp [madeCells, hi2, Nat.mod_one]
      rw [this]; congr 2; symm; exact decide_eq_false (by omega)
  have hrow1 : ((w.alloc (.cells cs 4)).alloc (.cells #[.slice (some ⟨w.heap.size, 0, none⟩) n n] 81)).rowIs w.heap.size 4 n (fun j => .bool (decide (j = n - 1))) := by
    have := World.rowIs_alloc w cs 4 _ hcell
    rw [hsz] at this
    exact this.alloc _
  have bx1 : Boxed ((w.alloc (.cells cs 4)).alloc (.cells #[.slice (some ⟨w.heap.size, 0, none⟩) n n] 81)) (w.heap.size + 1) 81 (.slice (some ⟨w.heap.size, 0, none⟩) n n) := by
    have := Boxed.new (w.alloc (.cells cs 4)) 81 (.slice (some ⟨w.heap.size, 0, none⟩) n n)
    rwa [World.size_alloc] at this
  have hb1 : Below w.heap.size w ((w.alloc (.cells cs 4)).alloc (.cells #[.slice (some ⟨w.heap.size, 0, none⟩) n n] 81)) := ((Below.refl _ _).alloc (Nat.le_refl _) _).alloc (by simp) _
  have hs1 : ((w.alloc (.cells cs 4)).alloc (.cells #[.slice (some ⟨w.heap.size, 0, none⟩) n n] 81)).heap.size = w.heap.size + 2 := by simp
  have hmz : m < (madeCells #[Value.bool false] n).size := by simp [size_madeCells]; omega
  have Hm := hide hm
  clear hm
  refine (callsIn_wide (n := 9)).1 ?_
  refine callsIn_of_wp_marks Tryz.func35 rfl trivial ?_ rfl
  simp only [Tryz.ntmps35, List.size_toArray, List.length_cons, List.length_nil, Nat.reduceAdd, Nat.reduceSub, Array.replicate_succ, Array.replicate_zero, List.push_toArray, List.append_toArray, List.nil_append, List.cons_append]
  gi_wp2_with (refine ⟨trivial, ?_⟩; gi_at_call 62; refine (callsIn_wide.2 (hbk.out _)).mono ?_; rintro e w2 ⟨rfl, rfl⟩)
  rw [← hcs]
  generalize (w.alloc (.cells cs 4)).alloc (.cells #[.slice (some ⟨w.heap.size, 0, none⟩) n n] 81) = W1 at *
  obtain ⟨W0, hW0⟩ : ∃ W0, W0 = W1.alloc (.cells #[.slice A n c] 24) := ⟨_, rfl⟩
  have hsz0 : W0.heap.size = w.heap.size + 3 := by rw [hW0, World.size_alloc, hs1]
  have hB0 : Below w.heap.size w W0 := by rw [hW0]; exact hb1.alloc hb1.size _
  have hrow0 : W0.rowIs w.heap.size 4 n (fun j => .bool (decide (j = n - 1))) := by rw [hW0]; exact hrow1.alloc _
  have b1 : Boxed W0 (w.heap.size + 1) 81 (.slice (some ⟨w.heap.size, 0, none⟩) n n) := by rw [hW0]; exact bx1.alloc _
  have b3 : Boxed W0 (w.heap.size + 2) 24 (.slice A n c) := by
    rw [hW0]
    have := Boxed.new W1 24 (.slice A n c)
    rwa [hs1] at this
  rw [← hW0]
  clear hW0 hbk hrow1 bx1 hb1 hs1 hmk1 hw0 i1 i2 hmz hcell hcs hsz
  obtain ⟨H, hH⟩ : ∃ H, H = w.heap.size := ⟨_, rfl⟩
  refine wpIn_rangeFunc_ownH rfl (by omega) (gf := 93) (lb := #[.pointer (some ⟨w.heap.size + 2, 0, none⟩)]) rfl trivial (enters_of Tryz.func93 (by kernel_rfl) rfl)
    (backP_stops l A n c w.heap.size (w.heap.size + 2) _ (by omega) (by omega) W0 (PfIn.below h hB0) hB0.size b3) kpP_t (kpP_b hB0.size (by omega)) (Below.refl _ _) (fun _ => rfl)
    (fun pre W => ∃ U : Nat → Bool, W.rowIs w.heap.size 4 n (fun j => .bool (U j)) ∧ Boxed W (w.heap.size + 1) 81 (.slice (some ⟨w.heap.size, 0, none⟩) n n) ∧ MarksP l pre U ∧ Below w.heap.size w W)
    (fun c pre W => False)
    (fun pre X Y row ⟨U, g1, g2, g3, hB⟩ hg hr => ⟨U, row_far g1 hg hr, g2.kept hg (fun e => by have := (hr _ e.symm).1; omega), g3, hB.grown hg hB.size (fun r e => by have := (hr r e).1; omega)⟩)
    (fun c pre X Y row hF _ _ => hF)
    ⟨_, hrow0, b1, by rw [← hlen]; exact marks_start l, hB0⟩
    (fun x a' W => ∃ Bx, Blk W Bx 53 #[.int .i64 x.1.2.kind, .string x.1.2.name, .int .i64 x.1.2.ver, .string x.1.2.dest, .int .i64 x.1.2.a, .int .i64 x.1.2.b] ∧ w.heap.size + 1 < Bx ∧ a' = { tmps := #[.slice A n c, undef, .slice none 0 0, .pointer (some ⟨w.heap.size + 1, 0, none⟩), .int .i64 (x.1.1 : Int), .pointer (some ⟨Bx, 0, none⟩), .slice A n c, .int .i64 (n : Int), .slice (some ⟨w.heap.size, 0, none⟩) n n, .slice (some ⟨w.heap.size, 0, none⟩) n n, .slice A n c, .int .i64 (n : Int), .int .i64 (m : Int), .pointer (some ⟨w.heap.size, m, none⟩), .slice A n c, .func (.func 93) #[] #[.pointer (some ⟨w.heap.size + 2, 0, none⟩)], .int .i64 (x.1.1 : Int), .agg #[.int .i64 x.1.2.kind, .string x.1.2.name, .int .i64 x.1.2.ver, .string x.1.2.dest, .int .i64 x.1.2.a, .int .i64 x.1.2.b], undef, undef, undef, undef, undef, undef, undef, undef, undef, undef, undef, undef, undef, undef, undef, undef, undef, undef], defers := [] })
    (fun x a' _ X Y row ⟨Bx, g2, g4, g3⟩ hg hr => ⟨Bx, blk_row g2 hg hr, g4, g3⟩)
    ?assign ?body ?done ?stop
  case assign =>
    rintro lx pre x W K ⟨U, g1, g2, g3, hB⟩ hK
    unfold encPf
    gi_wp2
    exact hK _ _ ((KeepsOthers.alloc _ _).from _) ⟨(Below.refl _ W).alloc hB.size _, fun u hu => hu.alloc _⟩ ⟨U, g1.alloc _, g2.alloc _, g3, hB.alloc hB.size _⟩ ⟨W.heap.size, Blk.new _ _ _, g2.lt, rfl⟩
  case body =>
    rintro lx pre x a' W hlx ⟨r, hr⟩ ⟨U, g1, g2, g3, hB⟩ ⟨Bx, hk, hBx, rfl⟩ hlt
    have Hnx := hide (marks_next g3 x (by omega))
    obtain ⟨P, hP⟩ : ∃ P, P = pre ++ [x] := ⟨_, rfl⟩
    rw [← hP] at Hnx ⊢
    clear hP
    obtain ⟨⟨i, q⟩, hx⟩ := x
    simp only [] at hk Hnx hx ⊢
    have hi : i < n := by have := (List.getElem?_eq_some_iff.1 hx).1; omega
    have Hj := hide (fun hk4 => may_joined (hok i q hx) hk4)
    obtain ⟨kd, nm, v, d, a, b⟩ := q
    simp only [] at hk Hnx Hj ⊢
    have xb := g2.cell
    have xr := g1.cell hi
    have k0 := (hk.cell 0).trans (show (#[Value.int .i64 kd, .string nm, .int .i64 v, .string d, .int .i64 a, .int .i64 b] : Array Value)[0]? = some (.int .i64 kd) from rfl)
    have hWs := hB.size
    have hltb := g2.lt
    have hltk := hk.lt
    have i1 : (0 : Int) ≤ (i : Int) := by omega
    have i2 : (i : Int) < (n : Int) := by omega
    clear hx
    cases hu : U i with
    | false =>
      rw [hu] at xr Hnx
      clear hu
      simp only [Bool.false_eq_true, false_and, if_false] at Hnx
      gi_wp2
      exact ⟨(KeepsOthers.refl _).from _, ⟨Below.refl _ _, fun u hu => hu⟩, ⟨U, g1, g2, Hnx.out, hB⟩⟩
    | true =>
      rw [hu] at xr Hnx
      clear hu
      by_cases hk4 : kd = 4
      · obtain ⟨q1, q2, q3, q4⟩ := Hj.out hk4
        obtain ⟨a', rfl⟩ : ∃ a' : Nat, a = (a' : Int) := ⟨a.toNat, by omega⟩
        obtain ⟨b', rfl⟩ : ∃ b' : Nat, b = (b' : Int) := ⟨b.toNat, by omega⟩
        simp only [hk4, and_self, if_true, Int.toNat_natCast] at Hnx
        have hk41 : (kd == 4) = true := beq_iff_eq.2 hk4
        have ja : (a' : Int) < (n : Int) := by omega
        have jb : (b' : Int) < (n : Int) := by omega
        have k4 := (hk.cell 4).trans (show (#[Value.int .i64 kd, .string nm, .int .i64 v, .string d, .int .i64 (a' : Int), .int .i64 (b' : Int)] : Array Value)[4]? = some (.int .i64 (a' : Int)) from rfl)
        have k5 := (hk.cell 5).trans (show (#[Value.int .i64 kd, .string nm, .int .i64 v, .string d, .int .i64 (a' : Int), .int .i64 (b' : Int)] : Array Value)[5]? = some (.int .i64 (b' : Int)) from rfl)
        clear k4 k5
        obtain ⟨Wd, hWd⟩ : ∃ Wd, Wd = W.drew := ⟨_, rfl⟩
        have g10 : Wd.rowIs w.heap.size 4 n (fun j => .bool (U j)) := by rw [hWd]; exact g1
        have g20 : Boxed Wd (w.heap.size + 1) 81 (.slice (some ⟨w.heap.size, 0, none⟩) n n) := by rw [hWd]; exact g2
        have hk0 : Blk Wd Bx 53 #[.int .i64 kd, .string nm, .int .i64 v, .string d, .int .i64 (a' : Int), .int .i64 (b' : Int)] := by rw [hWd]; exact hk
        have hB0' : Below w.heap.size w Wd := by rw [hWd]; exact hB.drew
        have hWW : Below w.heap.size W Wd := by rw [hWd]; exact (Below.refl _ _).drew
        have hKo : KeepsOthers W Wd := by rw [hWd]; exact KeepsOthers.drew W
        have hKb : ∀ u, Boxed W (w.heap.size + 2) 24 u → Boxed Wd (w.heap.size + 2) 24 u := fun u hu => by rw [hWd]; exact hu
        have ha1 := g10.cell (i := a') (by omega)
        have fa1 := g10.frozen a'
        have g11 := g10.set a' (.bool true)
        have hg1 := set_only_ Wd w.heap.size a' (.bool true)
        have g21 := g20.kept hg1 (fun e => by injection e with e; omega)
        have hk1 := hk0.grown hg1 (fun e => by injection e with e; omega)
        have hb1 := g11.cell (i := b') (by omega)
        have fb1 := g11.frozen b'
        have g12 := (g11.set b' (.bool true)).congr (fun j hj => set_two U a' b' j)
        have hg2 := set_only_ (Wd.setCell ⟨w.heap.size, a', none⟩ (.bool true)) w.heap.size b' (.bool true)
        have g22 := g21.kept hg2 (fun e => by injection e with e; omega)
        have hk2 := hk1.grown hg2 (fun e => by injection e with e; omega)
        have xb0 := g20.cell
        have k40 := (hk0.cell 4).trans (show (#[Value.int .i64 kd, .string nm, .int .i64 v, .string d, .int .i64 (a' : Int), .int .i64 (b' : Int)] : Array Value)[4]? = some (.int .i64 (a' : Int)) from rfl)
        have k50 := (hk0.cell 5).trans (show (#[Value.int .i64 kd, .string nm, .int .i64 v, .string d, .int .i64 (a' : Int), .int .i64 (b' : Int)] : Array Value)[5]? = some (.int .i64 (b' : Int)) from rfl)
        have xb1 := g21.cell
        have k41 := (hk1.cell 4).trans (show (#[Value.int .i64 kd, .string nm, .int .i64 v, .string d, .int .i64 (a' : Int), .int .i64 (b' : Int)] : Array Value)[4]? = some (.int .i64 (a' : Int)) from rfl)
        have k51 := (hk1.cell 5).trans (show (#[Value.int .i64 kd, .string nm, .int .i64 v, .string d, .int .i64 (a' : Int), .int .i64 (b' : Int)] : Array Value)[5]? = some (.int .i64 (b' : Int)) from rfl)
        have xb2 := g22.cell
        have k42 := (hk2.cell 4).trans (show (#[Value.int .i64 kd, .string nm, .int .i64 v, .string d, .int .i64 (a' : Int), .int .i64 (b' : Int)] : Array Value)[4]? = some (.int .i64 (a' : Int)) from rfl)
        have k52 := (hk2.cell 5).trans (show (#[Value.int .i64 kd, .string nm, .int .i64 v, .string d, .int .i64 (a' : Int), .int .i64 (b' : Int)] : Array Value)[5]? = some (.int .i64 (b' : Int)) from rfl)
        have hBz := hide ((hB0'.setCell (p := ⟨w.heap.size, a', none⟩) (Nat.le_refl _) (.bool true)).setCell (p := ⟨w.heap.size, b', none⟩) (Nat.le_refl _) (.bool true))
        have hBy := hide ((hWW.setCell (p := ⟨w.heap.size, a', none⟩) (Nat.le_refl _) (.bool true)).setCell (p := ⟨w.heap.size, b', none⟩) (Nat.le_refl _) (.bool true))
        have Hbk := hide (fun (u : Value) (hu : Boxed W (w.heap.size + 2) 24 u) => ((hKb u hu).kept hg1 (fun e => by injection e with e; omega)).kept hg2 (fun e => by injection e with e; omega))
        have Hke := hide (((hKo.from W0.heap.size).trans ((KeepsOthers.setCell Wd ⟨w.heap.size, a', none⟩ (.bool true)).from W0.heap.size)).trans ((KeepsOthers.setCell (Wd.setCell ⟨w.heap.size, a', none⟩ (.bool true)) ⟨w.heap.size, b', none⟩ (.bool true)).from W0.heap.size))
        clear hk4 Hj q1 q2 q3 q4 hKb hKo hWW hB0' g1 g2 hk g3 hB hg1 hg2
        gi_wp2
        refine Grow.T.wpIn_region_two 7 9 (Wd.setCell ⟨w.heap.size, a', none⟩ (.bool true)) ((Wd.setCell ⟨w.heap.size, a', none⟩ (.bool true)).setCell ⟨w.heap.size, b', none⟩ (.bool true)) (by kernel_rfl) (fun _ => trivial) (by kernel_rfl) ?_
        rw [← hWd]
        clear hWd
        refine Grow.T.runs_read (by decide) (by decide) (.slice (some ⟨w.heap.size, 0, none⟩) n n) (.inl ?_) (.inl ?_) (.inl ?_) ?_
        · go_simp
        · go_simp
        · go_simp
        simp only [Act.put, List.setIfInBounds_toArray, List.set_cons_zero, List.set_cons_succ]
        refine Grow.T.runs_read (by decide) (by decide) (.pointer (some ⟨Bx, 4, none⟩)) (.inl ?_) (.inl ?_) (.inl ?_) ?_
        · go_simp
        · go_simp
        · go_simp
        simp only [Act.put, List.setIfInBounds_toArray, List.set_cons_zero, List.set_cons_succ]
        refine Grow.T.runs_read (by decide) (by decide) (.int .i64 (a' : Int)) (.inl ?_) (.inl ?_) (.inl ?_) ?_
        · go_simp
        · go_simp
        · go_simp
        simp only [Act.put, List.setIfInBounds_toArray, List.set_cons_zero, List.set_cons_succ]
        refine Grow.T.runs_read (by decide) (by decide) (.slice (some ⟨w.heap.size, 0, none⟩) n n) (.inl ?_) (.inl ?_) (.inl ?_) ?_
        · go_simp
        · go_simp
        · go_simp
        simp only [Act.put, List.setIfInBounds_toArray, List.set_cons_zero, List.set_cons_succ]
        refine Grow.T.runs_read (by decide) (by decide) (.pointer (some ⟨Bx, 5, none⟩)) (.inl ?_) (.inl ?_) (.inl ?_) ?_
        · go_simp
        · go_simp
        · go_simp
        simp only [Act.put, List.setIfInBounds_toArray, List.set_cons_zero, List.set_cons_succ]
        refine Grow.T.runs_read (by decide) (by decide) (.int .i64 (b' : Int)) (.inl ?_) (.inl ?_) (.inl ?_) ?_
        · go_simp
        · go_simp
        · go_simp
        simp only [Act.put, List.setIfInBounds_toArray, List.set_cons_zero, List.set_cons_succ]
        refine Grow.T.runs_read (by decide) (by decide) (.pointer (some ⟨w.heap.size, a', none⟩)) (.inl ?_) (.inl ?_) (.inl ?_) ?_
        · go_simp
        · go_simp
        · go_simp
        simp only [Act.put, List.setIfInBounds_toArray, List.set_cons_zero, List.set_cons_succ]
        refine Grow.T.runs_first rfl (.inr ⟨?_, rfl⟩) ?_
        · go_simp
        simp only [Act.put]
        refine Grow.T.runs_read (by decide) (by decide) (.pointer (some ⟨w.heap.size, b', none⟩)) (.inl ?_) (.inl ?_) (.inl ?_) ?_
        · go_simp
        · go_simp
        · go_simp
        simp only [Act.put, List.setIfInBounds_toArray, List.set_cons_zero, List.set_cons_succ]
        refine Grow.T.runs_last (by decide) rfl (.inr ⟨?_, rfl⟩) ?_
        · go_simp
        simp only [Act.put]
        simp only [Grow.T.Runs]
        gi_wp2
        exact ⟨Hke.out, ⟨hBy.out, Hbk.out⟩, ⟨_, g12, g22, Hnx.out, hBz.out⟩⟩
      · have hk41 : (kd == 4) = false := beq_eq_false_iff_ne.2 hk4
        simp only [hk4, and_false, if_false] at Hnx
        clear hk4 Hj
        gi_wp2
        exact ⟨(KeepsOthers.refl _).from _, ⟨Below.refl _ _, fun u hu => hu⟩, ⟨U, g1, g2, Hnx.out, hB⟩⟩
  case done =>
    rintro D ys W hD hS ⟨U, g1, g2, g3, hB⟩ hK
    have hU := marks_end g3 hS
    subst hU
    have xb := g2.cell
    have hBd := hB.trans (belowK_b (w := W0) hB0.size W D (.deferred (some [])) (.deferred none) hD hK rfl rfl)
    gi_wp2
    refine ⟨by simp, .inl ⟨_, _, rfl, run_takeDeferred hK, ?_⟩⟩
    exact ⟨_, results_tmp rfl _ _ _, rfl, row_kept g1 (grownBy_putObj' _ _ _) (fun e => by injection e with e; omega), hBd⟩
  case stop =>
    rintro D c pre W hD hpre hF hK
    exact hF.elim
theorem specMarkPf : SpecMarkPf := fun l A n c w h hok h1 hn => markPf_any l A n c w h hok h1 hn
end Go.Proofs.YtdmejcfnolhplaaGreat.Proof
/-
  The law JudgeFacts holds: for every input its call returns true and its arguments read afterwards as they did. No condition beyond the given row's own.
-/
namespace Go.Proofs.YtdmejcfnolhplaaGreat.judgeFacts
open Go.ChangeShapes Go.WideShapes Go.ChangeAt Go.RowKit
open Go.ChangeMaps (open_string shut_string)
set_option linter.unusedVariables false
theorem own : ownKnob Tryz.prog.godebug = none := by kernel_rfl
theorem laidOut : laidOutB Tryz.prog = true := by kernel_rfl
theorem walk (a0 : Option Addr) (len0 cap0 : Nat) (l0 : List ((ByteArray) × (List (Int)))) (c1 : List Value) (l1 : (List ((ByteArray) × (List ((Int) × (Int))))) × (List ((Int) × (ByteArray) × (Int) × (ByteArray) × (Int) × (Int))) × (List ((ByteArray) × (Int)))) (w : World) (w0 : len0 ≤ cap0 ∧ cap0 ≤ maxLen ∧ (a0 = none → cap0 = 0) ∧ RowOf (liePair (lieStr) (lieSlice (lieInt .u8))) w w.heap.size a0 len0 l0) (w1 : (liePair (lieSlice (liePair (lieStr) (lieSlice (liePair (lieInt .i64) (lieInt .i64))))) (liePair (lieSlice (liePair (lieInt .i64) (liePair (lieStr) (liePair (lieInt .i64) (liePair (lieStr) (liePair (lieInt .i64) (lieInt .i64))))))) (lieSlice (liePair (lieStr) (lieInt .i64))))).holds w w.heap.size c1 l1) :
    Calls Tryz.prog 4 #[.slice a0 len0 cap0, .agg c1.toArray] w fun e w' => e = .returned (.bool true) ∧ Below w.heap.size w w' := by
  unfold maxLen at *
  obtain ⟨k0, k1, _, hr0⟩ := w0
  obtain ⟨x1, x23, rfl, ⟨A1, n1, e1, rfl, j0, j1, _, hr1⟩, x2, x3, rfl, ⟨A2, n2, e2, rfl, m0, m1, _, hr2⟩, A3, n3, e3, rfl, p0, p1, _, hr3⟩ := w1
  unfold maxLen at j1 m1 p1
  exact Judge.jfacts_walk Judge.specAcceptJ Judge.specClashesJ (Proof.specTrimPf Proof.specMarkPf) (Depot.toE l0) l1.1 (l1.2.1.map Proof.toSp) l1.2.2 a0 A1 A2 A3 len0 cap0 n1 e1 n2 e2 n3 e3 w (Depot.enOn_of hr0).1 (Need.ndOn_of hr1).1 (Proof.pfOn_of hr2).1 (Pick.pkOn_of hr3).1 (by omega) (by omega) (by omega) (by omega) m0
set_option maxRecDepth 100000 in
theorem op9 : Opens Tryz.prog 9 (lieStr) := opens_str Tryz.underlying9 (by kernel_rfl)
set_option maxRecDepth 100000 in
theorem op5 : Opens Tryz.prog 5 (lieInt .u8) := opens_int Tryz.underlying5 (by kernel_rfl)
set_option maxRecDepth 100000 in
theorem op55 : Opens Tryz.prog 55 (lieSlice (lieInt .u8)) := opens_slice Tryz.underlying55 (by kernel_rfl) op5 (by decide)
set_option maxRecDepth 100000 in
theorem op57 : Opens Tryz.prog 57 (liePair (lieStr) (lieSlice (lieInt .u8))) := opens_struct Tryz.underlying57 (by kernel_rfl) (opensF_cons rfl op9 (opensF_one rfl op55))
set_option maxRecDepth 100000 in
theorem op22 : Opens Tryz.prog 22 (lieSlice (liePair (lieStr) (lieSlice (lieInt .u8)))) := opens_slice Tryz.underlying22 (by kernel_rfl) op57 (by decide)
set_option maxRecDepth 100000 in
theorem op3 : Opens Tryz.prog 3 (lieInt .i64) := opens_int Tryz.underlying3 (by kernel_rfl)
set_option maxRecDepth 100000 in
theorem op67 : Opens Tryz.prog 67 (liePair (lieInt .i64) (lieInt .i64)) := opens_struct Tryz.underlying67 (by kernel_rfl) (opensF_cons rfl op3 (opensF_one rfl op3))
set_option maxRecDepth 100000 in
theorem op58 : Opens Tryz.prog 58 (lieSlice (liePair (lieInt .i64) (lieInt .i64))) := opens_slice Tryz.underlying58 (by kernel_rfl) op67 (by decide)
set_option maxRecDepth 100000 in
theorem op60 : Opens Tryz.prog 60 (liePair (lieStr) (lieSlice (liePair (lieInt .i64) (lieInt .i64)))) := opens_struct Tryz.underlying60 (by kernel_rfl) (opensF_cons rfl op9 (opensF_one rfl op58))
set_option maxRecDepth 100000 in
theorem op23 : Opens Tryz.prog 23 (lieSlice (liePair (lieStr) (lieSlice (liePair (lieInt .i64) (lieInt .i64))))) := opens_slice Tryz.underlying23 (by kernel_rfl) op60 (by decide)
set_option maxRecDepth 100000 in
theorem op53 : Opens Tryz.prog 53 (liePair (lieInt .i64) (liePair (lieStr) (liePair (lieInt .i64) (liePair (lieStr) (liePair (lieInt .i64) (lieInt .i64)))))) := opens_struct Tryz.underlying53 (by kernel_rfl) (opensF_cons rfl op3 (opensF_cons rfl op9 (opensF_cons rfl op3 (opensF_cons rfl op9 (opensF_cons rfl op3 (opensF_one rfl op3))))))
set_option maxRecDepth 100000 in
theorem op24 : Opens Tryz.prog 24 (lieSlice (liePair (lieInt .i64) (liePair (lieStr) (liePair (lieInt .i64) (liePair (lieStr) (liePair (lieInt .i64) (lieInt .i64))))))) := opens_slice Tryz.underlying24 (by kernel_rfl) op53 (by decide)
set_option maxRecDepth 100000 in
theorem op79 : Opens Tryz.prog 79 (liePair (lieStr) (lieInt .i64)) := opens_struct Tryz.underlying79 (by kernel_rfl) (opensF_cons rfl op9 (opensF_one rfl op3))
set_option maxRecDepth 100000 in
theorem op46 : Opens Tryz.prog 46 (lieSlice (liePair (lieStr) (lieInt .i64))) := opens_slice Tryz.underlying46 (by kernel_rfl) op79 (by decide)
set_option maxRecDepth 100000 in
theorem op48 : Opens Tryz.prog 48 (liePair (lieSlice (liePair (lieStr) (lieSlice (liePair (lieInt .i64) (lieInt .i64))))) (liePair (lieSlice (liePair (lieInt .i64) (liePair (lieStr) (liePair (lieInt .i64) (liePair (lieStr) (liePair (lieInt .i64) (lieInt .i64))))))) (lieSlice (liePair (lieStr) (lieInt .i64))))) := opens_struct Tryz.underlying48 (by kernel_rfl) (opensF_cons rfl op23 (opensF_cons rfl op24 (opensF_one rfl op46)))
set_option maxRecDepth 100000 in
theorem lifted (os : Os) (started : os.Started) (H : Type) (enc : TypeId × Value → H) :
    ReturnsInHanded {} Tryz.checked os 4 .any (Rows.judgeFactsSpec.pre6 enc Tryz.prog Tryz.f4 Rows.judgeFactsRow.domain false) (Rows.judgeFactsSpec.post enc Tryz.prog Tryz.f4 false true false false) := by
  refine returnsInHanded_of_change (C := Tryz.checked) own started (by kernel_rfl) Tryz.func4
    (ChangeSpec.witness6 (enc := enc) (C := Tryz.checked) false ⟨#[], #[.slice none 0 0, .agg #[.slice none 0 0, .slice none 0 0, .slice none 0 0]], []⟩ 8 (by kernel_rfl) (by kernel_rfl) (by kernel_rfl) (by kernel_rfl)) ?_
  intro W base args ds gs before hval0 hW hcnd _
  have hval : ∀ (j : Nat) t v, Tryz.f4.params[j]? = some t → args[j]? = some v → Value.okWide Tryz.prog W .any base t v := hval0
  have hW' := hW
  obtain ⟨p, q, hA0, hV, rfl, hfz, hnd⟩ := hW
  have hA : DataW.TrodAll enc Tryz.prog W 0 (fun _ => true) true Tryz.f4.params.toList args.toList ds p := hA0
  rw [Tryz.params4] at hA hval
  obtain ⟨v0, vs0, d0, ds0, p0, q0, hargs, rfl, rfl, h0, r0⟩ := trodAll_cons hA
  obtain ⟨v1, vs1, d1, ds1, p1, q1, rfl, rfl, rfl, h1, r1⟩ := trodAll_cons r0
  obtain ⟨rfl, rfl, rfl⟩ := trodAll_nil r1
  obtain rfl : args = #[v0, v1] := by cases args; simp_all
  obtain ⟨rfl, rfl⟩ := trodVars_none hV
  obtain ⟨a0, len0, cap0, rfl⟩ := okWide_slice Tryz.underlying22 (hval 0 22 v0 rfl rfl)
  have k0 := h0
  have lt0 : ∀ x ∈ p0, x.block < W.heap.size := by obtain ⟨m, hm⟩ := k0; exact DataW.trod_lt m _ _ _ hm
  obtain ⟨l0, w0⟩ : ∃ l, len0 ≤ cap0 ∧ cap0 ≤ maxLen ∧ (a0 = none → cap0 = 0) ∧ RowOf (liePair (lieStr) (lieSlice (lieInt .u8))) W W.heap.size a0 len0 l := by
    obtain ⟨fuel, hf⟩ := h0
    obtain ⟨d, A', n', c', e, h⟩ := op22.2 enc W _ _ fuel _ _ hf
    simp [Value.cells] at e
    obtain ⟨rfl, rfl, rfl⟩ := e
    exact ⟨d, h⟩
  obtain ⟨e1, rfl, hsz1⟩ := okWide_struct Tryz.underlying48 (hval 1 48 v1 rfl rfl)
  have k1 := h1
  have lt1 : ∀ x ∈ p1, x.block < W.heap.size := by obtain ⟨m, hm⟩ := k1; exact DataW.trod_lt m _ _ _ hm
  obtain ⟨c1, rfl⟩ : ∃ c : List Value, e1 = c.toArray := ⟨e1.toList, by simp⟩
  obtain ⟨l1, w1⟩ : ∃ l, (liePair (lieSlice (liePair (lieStr) (lieSlice (liePair (lieInt .i64) (lieInt .i64))))) (liePair (lieSlice (liePair (lieInt .i64) (liePair (lieStr) (liePair (lieInt .i64) (liePair (lieStr) (liePair (lieInt .i64) (lieInt .i64))))))) (lieSlice (liePair (lieStr) (lieInt .i64))))).holds W W.heap.size c1 l := by
    obtain ⟨fuel, hf⟩ := h1
    simpa [Value.cells] using op48.2 enc W _ _ fuel _ _ hf
  clear hA0 hval0
  refine (walk a0 len0 cap0 l0 c1 l1 W w0 w1).mono fun e W' ⟨he, bel⟩ => ?_
  subst he
  exact ⟨_, rfl, _, _, _, [], _, [], hW', trodAll_mk1 (shut_bool Tryz.underlying4 _), (trodAll_cons_mk (Below.trod laidOut (by kernel_rfl) (of_decide_eq_true (by kernel_rfl)) k0 bel lt0) (trodAll_cons_mk (Below.trod laidOut (by kernel_rfl) (of_decide_eq_true (by kernel_rfl)) k1 bel lt1) trodAll_mk0)), rfl, bel.frame _, fun h => by cases h⟩
theorem over : Rows.judgeFactsRow.holds Tryz.pinned (OpenSpec.ofChange Rows.judgeFactsSpec) :=
  OpenClaim.holds_of_wide 4 Tryz.f4 rfl rfl rfl rfl rfl rfl rfl ⟨rfl, rfl, rfl, rfl, rfl⟩ rfl rfl rfl rfl rfl (by kernel_rfl) Tryz.func4 (by kernel_rfl)
    (of_decide_eq_true (by kernel_rfl)) (by unfold Func.isWrapper; first | (rw [if_pos (by decide +kernel)]; kernel_rfl) | (rw [if_neg (by decide +kernel)]; exact ⟨rfl, rfl⟩))
    (fun os started H enc _ => lifted os started H enc)
theorem proved : Rows.JudgeFactsSaid := over
#print axioms proved
end Go.Proofs.YtdmejcfnolhplaaGreat.judgeFacts
