/-
  Some texts of this claim, one behind the other: GrowT. What each proves, and its condition, stands at its head.
-/
import Derived.Test.YtdggnakjfcmnmaaZB30
import Derived.OrdersIn
/-
  A region that draws its order, inside a fence, whose operations call nothing and of which two store, one behind the other, while all others yield the same in each of the three worlds (ahead of the stores, between them, behind them): it is walked once, in the order of the text. No condition. Of no program.
-/
namespace Go.Proofs.Ytdggnakjfcmnmaa.Grow.T
open Go Go.RowKit
set_option linter.unusedVariables false
def run1 (P : Program) (o : Oper) (a : Act) (w : World) (v : Value) (w' : World) : Prop :=
  (execOp a.eval o).run P w = .ok (.value v) w' ∨ ((execOp a.eval o).run P w = .ok .skip w' ∧ v = undef)
def step3 (P : Program) (W0 W1 W2 : World) (m z k : Nat) (o : Oper) (a : Act) (v : Value) : Prop :=
  if k = m then run1 P o a W0 v W1 else if k = z then run1 P o a W1 v W2 else run1 P o a W0 v W0 ∧ run1 P o a W1 v W1 ∧ run1 P o a W2 v W2
def Runs (P : Program) (W0 W1 W2 : World) (m z : Nat) (E : Act → Prop) : Nat → List Oper → Act → Prop
  | _, [], a => E a
  | k, o :: l, a => ∃ v, step3 P W0 W1 W2 m z k o a v ∧ Runs P W0 W1 W2 m z E (k + 1) l (a.put o.dst v)
def puts : List Oper → List Value → Act → Act
  | o :: l, v :: vs, a => puts l vs (a.put o.dst v)
  | _, _, a => a
theorem puts_succ : ∀ (l : List Oper) (vs : List Value) (j : Nat) (o : Oper) (v : Value) (a : Act), l[j]? = some o → vs[j]? = some v → puts (l.take (j + 1)) (vs.take (j + 1)) a = (puts (l.take j) (vs.take j) a).put o.dst v
  | o' :: l, v' :: vs, 0, o, v, a, h1, h2 => by
    simp at h1 h2
    subst h1 h2
    simp [puts]
  | o' :: l, v' :: vs, j + 1, o, v, a, h1, h2 => by
    simp only [List.getElem?_cons_succ] at h1 h2
    simp only [List.take_succ_cons, puts]
    exact puts_succ l vs j o v _ h1 h2
  | [], _, _, _, _, _, h1, _ => by simp at h1
  | _ :: _, [], _, _, _, _, _, h2 => by simp at h2
section
variable {P : Program} {W0 W1 W2 : World} {m z : Nat} {E : Act → Prop}
theorem runs_vals : ∀ (l : List Oper) (k : Nat) (a : Act), Runs P W0 W1 W2 m z E k l a →
    ∃ vs : List Value, vs.length = l.length ∧ (∀ j o, l[j]? = some o → ∃ v, vs[j]? = some v ∧ step3 P W0 W1 W2 m z (k + j) o (puts (l.take j) (vs.take j) a) v) ∧ E (puts l vs a)
  | [], k, a, h => ⟨[], rfl, fun j o h => by simp at h, h⟩
  | o :: l, k, a, ⟨v, h1, h2⟩ => by
    obtain ⟨vs, e1, e2, e3⟩ := runs_vals l (k + 1) _ h2
    refine ⟨v :: vs, by simp [e1], fun j o' hj => ?_, e3⟩
    cases j with
    | zero =>
      simp at hj
      subst hj
      exact ⟨v, rfl, h1⟩
    | succ j =>
      rw [List.getElem?_cons_succ] at hj
      obtain ⟨u, g1, g2⟩ := e2 j o' hj
      refine ⟨u, by rw [List.getElem?_cons_succ]; exact g1, ?_⟩
      simp only [List.take_succ_cons, puts]
      rwa [show k + (j + 1) = k + 1 + j by omega]
end
section
variable {ops : Array Oper} {val : Nat → Value}
def dstOf (ops : Array Oper) (j : Nat) : Option Tmp := (ops[j]?).bind (·.dst)
def fill (ops : Array Oper) (val : Nat → Value) (L : Nat → Bool) (a : Act) : Nat → Act
  | 0 => a
  | k + 1 => if L k = true then (fill ops val L a k).put (dstOf ops k) (val k) else fill ops val L a k
theorem fill_step (L : Nat → Bool) (a : Act) (k : Nat) : fill ops val L a (k + 1) = if L k = true then (fill ops val L a k).put (dstOf ops k) (val k) else fill ops val L a k := rfl
def Uniq (ops : Array Oper) : Prop := ∀ i j d, dstOf ops i = some d → dstOf ops j = some d → i = j
theorem fill_congr {L M : Nat → Bool} {a : Act} : ∀ k, (∀ j, j < k → L j = M j) → fill ops val L a k = fill ops val M a k
  | 0, _ => rfl
  | k + 1, h => by
    rw [fill_step, fill_step, fill_congr k (fun j hj => h j (by omega)), h k (by omega)]
theorem fill_none {L : Nat → Bool} {a : Act} : ∀ k, (∀ j, j < k → L j = false) → fill ops val L a k = a
  | 0, _ => rfl
  | k + 1, h => by
    rw [fill_step, h k (by omega), fill_none k (fun j hj => h j (by omega))]
    simp
theorem fill_set (hU : Uniq ops) {L M : Nat → Bool} {a : Act} {i : Nat} (hi : L i = false) (hM : ∀ j, M j = if j = i then true else L j) : ∀ k, i < k → fill ops val M a k = (fill ops val L a k).put (dstOf ops i) (val i)
  | 0, h => by omega
  | k + 1, h => by
    by_cases e : i = k
    · subst e
      have h1 : fill ops val M a i = fill ops val L a i := fill_congr i fun j hj => by rw [hM, if_neg (by omega)]
      rw [fill_step, fill_step, hM, if_pos rfl, hi, h1]
      simp
    · have ih := fill_set hU (a := a) hi hM k (by omega)
      have e2 : M k = L k := by rw [hM, if_neg (fun h => e h.symm)]
      rw [fill_step, fill_step, e2, ih]
      by_cases hk : L k = true
      · rw [if_pos hk, if_pos hk]
        exact Act.put_comm _ _ _ fun d h1 h2 => e (hU i k d h1 h2)
      · rw [if_neg hk, if_neg hk]
theorem put_sizeT (a : Act) (d : Option Tmp) (v : Value) : (a.put d v).tmps.size = a.tmps.size := by
  cases d with
  | none => rfl
  | some d => simp [Act.put]
theorem fill_size {L : Nat → Bool} {a : Act} : ∀ k, (fill ops val L a k).tmps.size = a.tmps.size
  | 0 => rfl
  | k + 1 => by
    rw [fill_step]
    split
    · rw [put_sizeT, fill_size k]
    · exact fill_size k
theorem eval_put_same (a : Act) (t : Nat) (v : Value) : (a.put (some t) v).eval (.tmp t) = if t < a.tmps.size then v else undef := by
  simp only [Act.put, Act.eval]
  by_cases h : t < a.tmps.size
  · simp [h]
  · simp [h]
theorem fill_eval {L M : Nat → Bool} {a : Act} {t : Nat} : ∀ k, (∀ j, j < k → dstOf ops j = some t → L j = M j) → (fill ops val L a k).eval (.tmp t) = (fill ops val M a k).eval (.tmp t)
  | 0, _ => rfl
  | k + 1, h => by
    have ih := fill_eval (L := L) (M := M) (a := a) k fun j hj => h j (by omega)
    by_cases hd : dstOf ops k = some t
    · have e := h k (by omega) hd
      rw [fill_step, fill_step, e]
      split
      · rw [hd, eval_put_same, eval_put_same, fill_size, fill_size]
      · exact ih
    · have key : ∀ N : Nat → Bool, (fill ops val N a (k + 1)).eval (.tmp t) = (fill ops val N a k).eval (.tmp t) := fun N => by
        rw [fill_step]
        split
        · exact put_other _ _ _ _ hd
        · rfl
      rw [key, key, ih]
theorem fill_exec {L M : Nat → Bool} {a : Act} {o : Oper} (k : Nat) (hs : ∀ cs b, o.op ≠ .select cs b) (h : ∀ t, t ∈ o.looksAt ops → ∀ j, j < k → dstOf ops j = some t → L j = M j) :
    execOp (fill ops val L a k).eval o = execOp (fill ops val M a k).eval o :=
  execOp_congr o hs fun x hx => by
    cases x with
    | tmp t => exact fill_eval k (h t (List.mem_append_left _ (List.mem_filterMap.2 ⟨.tmp t, by simpa using hx, rfl⟩)))
    | _ => rfl
end
/-! The form of the region, as a Bool. -/
def plainOp (o : Oper) : Bool := o.guard.isNone && (match o.op with | .defer _ => false | .select _ _ => false | _ => true)
def uniqB (ops : Array Oper) : Bool :=
  (List.range ops.size).all fun i => (List.range ops.size).all fun j => i == j || (dstOf ops i).isNone || (dstOf ops i != dstOf ops j)
def downB (md : Region.Mode) (ops : Array Oper) : Bool :=
  (List.range ops.size).all fun i => match ops[i]? with | some o => o.after.all fun e => !Region.binds md e || decide (e.on < i) | none => true
def dataB (md : Region.Mode) (ops : Array Oper) : Bool :=
  (List.range ops.size).all fun i => match ops[i]? with
    | some o => (List.range ops.size).all fun j => (match dstOf ops j with | some d => !(o.looksAt ops).contains d | none => true) || (decide (j < i) && o.after.any fun e => Region.binds md e && e.on == j)
    | none => true
def okB (md : Region.Mode) (ops : Array Oper) (m z : Nat) : Bool :=
  (ops.all plainOp && uniqB ops) && (downB md ops && dataB md ops) && (decide (m < z ∧ z < ops.size) && (match ops[z]? with | some o => o.after.any fun e => Region.binds md e && e.on == m | none => false))
section
variable {F : Fence} {n : Nat} {P : Program} {ops : Array Oper} {md : Region.Mode} {Q : Exit → Act → World → Prop}
theorem wpAnyIn_of_inv (I : Array Bool → Act → World → Prop) (hsz : ∀ listed a w, I listed a w → listed.size = ops.size)
    (hstep : ∀ listed a w, I listed a w → ∀ i ∈ Region.ready md ops listed, wpOpIn F n P ops Q i (I (listed.setIfInBounds i true)) a w)
    (hend : ∀ listed a w, I listed a w → Region.ready md ops listed = [] → Q .normal a w) :
    ∀ (fuel : Nat) (listed : Array Bool) (a : Act) (w : World), I listed a w → listed.toList.countP (fun b => !b) ≤ fuel → wpAnyIn F n P md ops Q fuel listed a w
  | 0, listed, a, w, hI, hc => by
    have hr : Region.ready md ops listed = [] := by
      refine List.eq_nil_iff_forall_not_mem.2 fun j hj => ?_
      have h1 := (mem_ready.1 hj).1
      have h2 := List.countP_eq_zero.1 (Nat.le_zero.1 hc)
      rcases Nat.lt_or_ge j listed.size with h' | h'
      · have h3 := h2 listed[j] (by simp)
        simp [h'] at h1
        simp [h1] at h3
      · simp [Array.getElem?_eq_none h'] at h1
    exact ⟨hr, hend _ _ _ hI hr⟩
  | fuel + 1, listed, a, w, hI, hc => by
    refine ⟨fun hr => hend _ _ _ hI hr, fun i hi => ?_⟩
    have h1 := (mem_ready.1 hi).1
    have hlt : i < listed.size := by
      rcases Nat.lt_or_ge i listed.size with h' | h'
      · exact h'
      · simp [Array.getElem?_eq_none h'] at h1
    have h2 : listed[i] = false := by simpa [hlt] using h1
    have h3 : listed.toList.countP (fun b => !b) = (listed.toList.set i true).countP (fun b => !b) + 1 := by
      have hpos : 0 < listed.toList.countP (fun b => !b) := List.countP_pos_iff.2 ⟨listed[i], by simp, by simp [h2]⟩
      have := List.countP_set (p := fun b => !b) (a := true) (l := listed.toList) (i := i) (by simpa using hlt)
      rw [this]
      simp only [Array.getElem_toList, h2, Bool.not_false, Bool.not_true, if_true, Bool.false_eq_true, if_false]
      omega
    have h4 : (listed.setIfInBounds i true).toList.countP (fun b => !b) ≤ fuel := by
      rw [Array.toList_setIfInBounds]
      omega
    exact wpOpIn_mono (fun a' w' hI' => wpAnyIn_of_inv I hsz hstep hend fuel _ a' w' hI' h4) (hstep _ _ _ hI i hi)
theorem all_listed {listed : Array Bool} (hsz : listed.size = ops.size) (hd : downB md ops = true) (hr : Region.ready md ops listed = []) : ∀ j, j < ops.size → listed.getD j false = true := by
  intro j
  induction j using Nat.strongRecOn with
  | ind j ih =>
    intro hj
    cases hl : listed.getD j false with
    | true => rfl
    | false =>
      have : j ∈ Region.ready md ops listed := mem_ready.2 ⟨getD_in (by omega) hl, ops[j], by simp [hj], fun e he hb => by
        have h1 := List.all_eq_true.1 hd j (List.mem_range.2 hj)
        simp only [Array.getElem?_eq_getElem hj] at h1
        have h2 := Array.all_eq_true'.1 h1 e he
        simp only [hb, Bool.not_true, Bool.false_or, decide_eq_true_eq] at h2
        exact ih _ h2 (by omega)⟩
      rw [hr] at this
      cases this
end
theorem uniq_of {ops : Array Oper} (h : uniqB ops = true) : Uniq ops := fun i j d hi hj => by
  have li : i < ops.size := by
    rcases Nat.lt_or_ge i ops.size with h' | h'
    · exact h'
    · simp [dstOf, Array.getElem?_eq_none h'] at hi
  have lj : j < ops.size := by
    rcases Nat.lt_or_ge j ops.size with h' | h'
    · exact h'
    · simp [dstOf, Array.getElem?_eq_none h'] at hj
  have := List.all_eq_true.1 (List.all_eq_true.1 h i (List.mem_range.2 li)) j (List.mem_range.2 lj)
  rw [hi, hj] at this
  simpa using this
section
variable {P : Program} {W0 W1 W2 : World} {m z k : Nat} {E : Act → Prop} {o : Oper} {l : List Oper} {a : Act}
theorem runs_read (hm : k ≠ m) (hz : k ≠ z) (v : Value) (h0 : run1 P o a W0 v W0) (h1 : run1 P o a W1 v W1) (h2 : run1 P o a W2 v W2) (h : Runs P W0 W1 W2 m z E (k + 1) l (a.put o.dst v)) : Runs P W0 W1 W2 m z E k (o :: l) a :=
  ⟨v, by unfold step3; rw [if_neg hm, if_neg hz]; exact ⟨h0, h1, h2⟩, h⟩
theorem runs_first (hm : k = m) (h0 : run1 P o a W0 undef W1) (h : Runs P W0 W1 W2 m z E (k + 1) l (a.put o.dst undef)) : Runs P W0 W1 W2 m z E k (o :: l) a :=
  ⟨undef, by unfold step3; rw [if_pos hm]; exact h0, h⟩
theorem runs_last (hm : k ≠ m) (hz : k = z) (h0 : run1 P o a W1 undef W2) (h : Runs P W0 W1 W2 m z E (k + 1) l (a.put o.dst undef)) : Runs P W0 W1 W2 m z E k (o :: l) a :=
  ⟨undef, by unfold step3; rw [if_neg hm, if_pos hz]; exact h0, h⟩
end
theorem wpIn_region_two {F : Fence} {n : Nat} {P : Program} {id : Nat} {Q : Exit → Act → World → Prop} {a0 : Act} {w : World} {l : List Oper} (m z : Nat) (W1 W2 : World) (hm : P.follows .mixedOrders = true) (hF : ∀ f, F.fn f) (hok : okB .any l.toArray m z = true)
    (hR : Runs P w.drew W1 W2 m z (fun a => Q .normal a W2) 0 l a0) : (Code.region id l.toArray true).wpIn F n P Q a0 w := by
  obtain ⟨vs, hvl, hvs, hE⟩ := runs_vals l 0 a0 hR
  simp only [okB, Bool.and_eq_true, decide_eq_true_eq] at hok
  obtain ⟨⟨⟨hpl, hu⟩, hdn, hda⟩, ⟨hmz, hzl⟩, hza⟩ := hok
  have hU := uniq_of hu
  generalize hops : l.toArray = ops at *
  have hlen : ops.size = l.length := by rw [← hops]; simp
  have hget : ∀ j : Nat, ops[j]? = l[j]? := fun j => by rw [← hops, List.getElem?_toArray]
  obtain ⟨val, hval⟩ : ∃ val : Nat → Value, ∀ j v, vs[j]? = some v → val j = v := ⟨fun j => (vs[j]?).getD undef, fun j v h => by simp [h]⟩
  -- the states of the walk in the order of the text
  have hst : ∀ j, j ≤ ops.size → puts (l.take j) (vs.take j) a0 = fill ops val (fun i => decide (i < j)) a0 ops.size := by
    intro j
    induction j with
    | zero => intro _; rw [fill_none _ (fun i _ => by simp)]; simp [puts]
    | succ j ih =>
      intro hj
      obtain ⟨o, ho⟩ : ∃ o, l[j]? = some o := ⟨l[j]'(by omega), by simp⟩
      obtain ⟨v, hv, _⟩ := hvs j o ho
      rw [puts_succ l vs j o v a0 ho hv, ih (by omega), fill_set hU (L := fun i => decide (i < j)) (M := fun i => decide (i < j + 1)) (i := j) (by simp) (fun i => ?_) ops.size (by omega), hval j v hv]
      · simp only [dstOf, hget, ho, Option.bind_some]
      · by_cases e : i = j
        · subst e; simp
        · rw [if_neg e]; congr 1; apply propext; omega
  refine wpIn_region_any hm ?_
  have hz2 : ∀ listed : Array Bool, Closed .any ops listed → listed.getD z false = true → listed.getD m false = true := fun listed hc hl => by
    obtain ⟨o, ho⟩ : ∃ o, ops[z]? = some o := ⟨ops[z], by simp⟩
    rw [ho] at hza
    simp only [Array.any_eq_true', Bool.and_eq_true, beq_iff_eq] at hza
    obtain ⟨e, he, hb, rfl⟩ := hza
    exact hc z o ho hl e he hb
  have hc0 : Closed .any ops (Array.replicate ops.size false) := by
    intro j oj hj hl
    rw [getD_replicate_false] at hl
    cases hl
  refine wpAnyIn_of_inv (fun listed a w' => listed.size = ops.size ∧ Closed .any ops listed ∧ a = fill ops val (fun j => listed.getD j false) a0 ops.size ∧ w' = if listed.getD z false = true then W2 else if listed.getD m false = true then W1 else w.drew) (fun _ _ _ h => h.1) ?_ ?_ ops.size _ _ _ ⟨by simp, hc0, (fill_none _ (fun j _ => getD_replicate_false _ _)).symm, by simp only [getD_replicate_false]; rfl⟩ (Nat.le_trans List.countP_le_length (by simp))
  · rintro listed a w' ⟨hsz, hcl, rfl, rfl⟩ i hi
    have hcl' := hcl.set hi
    have hun := not_listed hi
    obtain ⟨hun', o, ho, hdep⟩ := mem_ready.1 hi
    have hil : i < ops.size := (Array.getElem?_eq_some_iff.1 ho).1
    have hpo : plainOp o = true := by
      have := Array.all_eq_true'.1 hpl o (Array.mem_of_getElem? ho)
      exact this
    have hg : o.guard = none := by
      simp only [plainOp, Bool.and_eq_true, Option.isNone_iff_eq_none] at hpo
      exact hpo.1
    have hsel : ∀ cs b, o.op ≠ .select cs b := fun cs b e => by simp [plainOp, e] at hpo
    have hdf : ∀ c, o.op ≠ .defer c := fun c e => by simp [plainOp, e] at hpo
    have hol : l[i]? = some o := by rw [← hget]; exact ho
    obtain ⟨v, hv, hs3⟩ := hvs i o hol
    rw [Nat.zero_add, hst i (by omega)] at hs3
    have hdata : ∀ t, t ∈ o.looksAt ops → ∀ j, j < ops.size → dstOf ops j = some t → j < i ∧ listed.getD j false = true := fun t ht j hj hd => by
      have h1 := List.all_eq_true.1 hda i (List.mem_range.2 hil)
      simp only [ho] at h1
      have h2 := List.all_eq_true.1 h1 j (List.mem_range.2 hj)
      simp only [hd, List.contains_iff_mem.2 ht, Bool.not_true, Bool.false_or, Bool.and_eq_true, decide_eq_true_eq, Array.any_eq_true', beq_iff_eq] at h2
      obtain ⟨h3, e, he, hb, rfl⟩ := h2
      exact ⟨h3, hdep e he hb⟩
    have hex : execOp (fill ops val (fun j => listed.getD j false) a0 ops.size).eval o = execOp (fill ops val (fun j => decide (j < i)) a0 ops.size).eval o :=
      fill_exec ops.size hsel fun t ht j hj hd => by
        obtain ⟨h1, h2⟩ := hdata t ht j hj hd
        rw [h2]; simp [h1]
    have hput : (fill ops val (fun j => listed.getD j false) a0 ops.size).put o.dst v = fill ops val (fun j => (listed.setIfInBounds i true).getD j false) a0 ops.size := by
      rw [fill_set hU (L := fun j => listed.getD j false) (M := fun j => (listed.setIfInBounds i true).getD j false) (i := i) hun (fun j => ?_) ops.size hil, hval i v hv]
      · simp only [dstOf, ho, Option.bind_some]
      · by_cases e : j = i
        · subst e; simp [show j < listed.size by omega]
        · rw [if_neg e]; exact getD_set_ne false (fun h => e h.symm)
    have go : ∀ w' w'', run1 P o (fill ops val (fun j => decide (j < i)) a0 ops.size) w' v w'' → (w'' = if (listed.setIfInBounds i true).getD z false = true then W2 else if (listed.setIfInBounds i true).getD m false = true then W1 else w.drew) →
        wpOpIn F n P ops Q i (fun a w' => (listed.setIfInBounds i true).size = ops.size ∧ Closed .any ops (listed.setIfInBounds i true) ∧ a = fill ops val (fun j => (listed.setIfInBounds i true).getD j false) a0 ops.size ∧ w' = if (listed.setIfInBounds i true).getD z false = true then W2 else if (listed.setIfInBounds i true).getD m false = true then W1 else w.drew) (fill ops val (fun j => listed.getD j false) a0 ops.size) w' := fun w' w'' hrun hw'' => by
      unfold wpOpIn
      simp only [ho]
      rw [if_pos (by simp [Region.wanted, hg])]
      refine ⟨fun f _ => hF f, ?_⟩
      rw [Oper.semAt_eq _ _ _ hdf, hex]
      rcases hrun with h | ⟨h, rfl⟩
      · rw [h, Oper.uponIn_value]
        exact ⟨by simpa using hsz, hcl', hput, hw''⟩
      · rw [h, Oper.uponIn_skip]
        exact ⟨by simpa using hsz, hcl', hput, hw''⟩
    have hse : ∀ j, j ≠ i → (listed.setIfInBounds i true).getD j false = listed.getD j false := fun j hj => getD_set_ne false (fun h => hj h.symm)
    have hsi : (listed.setIfInBounds i true).getD i false = true := by simp [show i < listed.size by omega]
    unfold step3 at hs3
    by_cases him : i = m
    · subst him
      rw [if_pos rfl] at hs3
      have hzf : listed.getD z false = false := by
        cases g : listed.getD z false with
        | false => rfl
        | true => rw [hz2 listed hcl g] at hun; cases hun
      rw [hzf, hun]
      exact go _ _ hs3 (by rw [hse z (by omega), hzf, hsi]; rfl)
    · rw [if_neg him] at hs3
      by_cases hiz : i = z
      · subst hiz
        rw [if_pos rfl] at hs3
        have hmt : listed.getD m false = true := by
          rw [← hse m (fun h => him h.symm)]
          exact hz2 _ hcl' hsi
        rw [hun, hmt]
        exact go _ _ hs3 (by rw [hsi]; rfl)
      · rw [if_neg hiz] at hs3
        obtain ⟨r0, r1, r2⟩ := hs3
        have ez := hse z (fun h => hiz h.symm)
        have em := hse m (fun h => him h.symm)
        have fin : ∀ w'' : World, (w'' = if listed.getD z false = true then W2 else if listed.getD m false = true then W1 else w.drew) → w'' = if (listed.setIfInBounds i true).getD z false = true then W2 else if (listed.setIfInBounds i true).getD m false = true then W1 else w.drew := fun w'' h => by rw [ez, em]; exact h
        cases g1 : listed.getD z false with
        | true =>
          exact go _ _ r2 (fin _ (by rw [g1]; rfl))
        | false =>
          cases g2 : listed.getD m false with
          | true =>
            exact go _ _ r1 (fin _ (by rw [g1, g2]; rfl))
          | false =>
            exact go _ _ r0 (fin _ (by rw [g1, g2]; rfl))
  · rintro listed a w' ⟨hsz, hcl, rfl, rfl⟩ hr
    have hall := all_listed hsz hdn hr
    rw [if_pos (hall z hzl)]
    have e := hst ops.size (Nat.le_refl _)
    rw [List.take_of_length_le (by omega), List.take_of_length_le (by omega)] at e
    rw [fill_congr (M := fun i => decide (i < ops.size)) ops.size (fun j hj => by rw [hall j hj]; simp [hj]), ← e]
    exact hE
end Go.Proofs.Ytdggnakjfcmnmaa.Grow.T
