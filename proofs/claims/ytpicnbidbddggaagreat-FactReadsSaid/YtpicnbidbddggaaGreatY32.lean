/-
  Some texts of this claim, one behind the other: ClashRefTold, ClashRefMake, FactRefMake, FactSame. What each proves, and its condition, stands at its head.
-/
import Derived.Test.YtpicnbidbddggaaGreatY31
import Derived.Test.YtpicnbidbddggaaGreatY25
import Derived.Test.YtpicnbidbddggaaGreatY24
import Derived.Test.YtpicnbidbddggaaGreatY30
/-
  Contracts of the document's Same, Holds, Show and Find of clashes. Condition: the slices read as terms; for Holds sets; for Show at most 1,000 spans each, at most 1,000 terms.
-/
namespace Go.Proofs.YtpicnbidbddggaaGreat.Clash
open Go.Proofs.YtpicnbidbddggaaGreat.Pick (Pk PkOn getP)
open Go.Proofs.YtpicnbidbddggaaGreat.Rule (showL show_len)
open Go Go.RowKit Go.Lib Go.Proofs.YtpicnbidbddggaaGreat.Span Go.Proofs.YtpicnbidbddggaaGreat.Need Go.Proofs.YtpicnbidbddggaaGreat.Grow Go.Proofs.YtpicnbidbddggaaGreat.Term
open Go.Proofs.YtpicnbidbddggaaGreat.Label (runes fitL)
set_option linter.unusedVariables false
theorem alikeC_snoc {l m : List Tm} {i : Nat} {s t : Tm} (h : l.take i = m.take i) (h1 : l[i]? = some s) (h2 : m[i]? = some t) (h3 : s = t) : l.take (i + 1) = m.take (i + 1) := by
  rw [List.take_add_one, List.take_add_one, h, h1, h2, h3]
theorem alikeC_ne {l m : List Tm} {i : Nat} {s t : Tm} (h1 : l[i]? = some s) (h2 : m[i]? = some t) (h3 : ¬ s = t) : decide (l = m) = false := by
  refine decide_eq_false fun e => ?_
  subst e
  rw [h1] at h2
  injection h2 with h2
  exact h3 h2
def ShortT (l : List Tm) : Prop := ∀ t ∈ l, t.set.length ≤ 1000000001
theorem FineT.short {l : List Tm} (h : FineT l) : ShortT l := fun t ht => (h t ht).2
set_option maxHeartbeats 8000000 in
set_option maxRecDepth 100000 in
theorem refSameC_any (l m : List Tm) (A A' : Option Addr) (n c n' c' : Nat) (w : World) (h : TmOn w A n l) (h' : TmOn w A' n' m) (hl : ShortT l) (hm : ShortT m) (hn : n ≤ 140737488355328) :
    Calls Tryz.prog 16 #[.slice A n c, .slice A' n' c'] w fun e w' => e = .returned (.bool (decide (l = m))) ∧ Below w.heap.size w w' := by
  have h1 := h.len
  have h2 := h'.len
  obtain ⟨r, hr⟩ : ∃ r, r = decide (l = m) := ⟨_, rfl⟩
  rw [← hr]
  have Hr := hide hr
  clear hr
  by_cases hnn : n = n'
  · subst hnn
    have H1 := hide h1
    have H2 := hide h2
    clear h1 h2
    go_enter Tryz.func16, Tryz.ntmps16
    go_wp2
    go_loopw [5] (fun v wr => ∃ (i : Nat), i ≤ n ∧ v = .int .i64 (i : Int) ∧ Hid (l.take i = m.take i) ∧ Below w.heap.size w wr) (fun v _ => n - (RowKit.intOf v).toNat)
    case atStart => exact ⟨0, by omega, rfl, hide rfl, Below.refl _ _⟩
    case round =>
      obtain ⟨i, hi, rfl, hf, hb⟩ := hrel
      have hbs := hb.size
      by_cases hlt : i < n
      · obtain ⟨ad, t, A1, n1, c1, rfl, hbl, hx, hs, p1, p2, p3⟩ := TmIn.at_ (TmIn.below h hb) hlt
        obtain ⟨ad', u, A2, n2, c2, rfl, hbl', hx', hs', r1, r2, r3⟩ := TmIn.at_ (TmIn.below h' hb) hlt
        have hsn := hide (@alikeC_snoc l m i t u hf.out hx hx')
        have hne := hide (@alikeC_ne l m i t u hx hx')
        have hq1 := hl t (List.mem_of_getElem? hx)
        have hq2 := hm u (List.mem_of_getElem? hx')
        have g1 := hs.1
        have g2 := hs'.1
        have HC : Hid (∀ wx, Below wr.heap.size wr wx → Calls Tryz.prog 45 #[.agg #[.string t.name, .slice A1 n1 c1, .bool t.none], .agg #[.string u.name, .slice A2 n2 c2, .bool u.none]] wx fun e w' => e = .returned (.bool (decide (t = u))) ∧ Below wx.heap.size wx w') := hide (fun wx hbx => by
          have := refSameT_any t.name u.name t.set u.set t.none u.none A1 A2 n1 c1 n2 c2 wx ((hs.below (hbx.mono hbs)).more (Nat.le_trans hbs hbx.size)) ((hs'.below (hbx.mono hbs)).more (Nat.le_trans hbs hbx.size)) (by omega) (by omega)
          rw [same_is] at this
          unfold Tells at this
          exact this)
        have q1 := cell_in p1 (by rw [block_of_add]; omega)
        have q2 := cell_in p2 (by simp only [block_of_add]; omega)
        have q3 := cell_in p3 (by simp only [block_of_add]; omega)
        have q4 := cell_in r1 (by rw [block_of_add]; omega)
        have q5 := cell_in r2 (by simp only [block_of_add]; omega)
        have q6 := cell_in r3 (by simp only [block_of_add]; omega)
        have hi1 : (0 : Int) ≤ (i : Int) := by omega
        have hi2 : (i : Int) < (n : Int) := by omega
        have Hy := hide (show decide (t = u) = true → t = u from of_decide_eq_true)
        have Hn := hide (show decide (t = u) = false → ¬ t = u from of_decide_eq_false)
        clear hx hx' hf hs hs' hq1 hq2 h h' hbl hbl' p1 p2 p3 r1 r2 r3 g1 g2
        generalize decide (t = u) = b at *
        cases b with
        | false =>
          have E2 : Hid (r = false) := hide (by rw [Hr.out]; exact hne.out (Hn.out rfl))
          clear Hy Hn hsn hne
          go_upto_region 6 with fail
          refine wp_region_grow [(25, isC (.bool false))] [25]
            (by kernel_rfl) (by kernel_rfl) rfl (by kernel_rfl) (by kernel_rfl) ⟨isC_stable _, trivial⟩ ?_
          repeat (first
            | (refine lex_skip rfl ?_; simp only [Act.put, List.setIfInBounds_toArray, List.set_cons_zero, List.set_cons_succ])
            | (refine lex_quiet rfl rfl rfl (fun K hK => ?_); unfold Reg; go_big_quiet_op; refine hK _ ?_; clear hK K))
          refine lex_rel rfl rfl (fun w' hb9 hK => ?_) (fun v w' hb9 hv => ?_)
          · clear hK
            unfold grows
            go_simp
            go_at_call 45
            exact call_isC (HC.out w' hb9)
          obtain rfl := hv
          simp only [Act.put, List.setIfInBounds_toArray, List.set_cons_zero, List.set_cons_succ]
          repeat (first
            | (refine lex_skip rfl ?_; simp only [Act.put, List.setIfInBounds_toArray, List.set_cons_zero, List.set_cons_succ])
            | (refine lex_quiet rfl rfl rfl (fun K hK => ?_); unfold Reg; go_big_quiet_op; refine hK _ ?_; clear hK K))
          refine lex_nil (fun w9 hC9 _ => ?_)
          have hb9 := reg_iff.1 hC9
          clear hC9
          clear q1 q2 q3 q4 q5 q6
          go_wp2
          go_ret
          exact ⟨by rw [E2.out]; rfl, hb.trans (hb9.mono hbs)⟩
        | true =>
          have E := hide (hsn.out (Hy.out rfl))
          clear Hy Hn hsn hne
          go_upto_region 6 with fail
          refine wp_region_grow [(25, isC (.bool true))] [25]
            (by kernel_rfl) (by kernel_rfl) rfl (by kernel_rfl) (by kernel_rfl) ⟨isC_stable _, trivial⟩ ?_
          repeat (first
            | (refine lex_skip rfl ?_; simp only [Act.put, List.setIfInBounds_toArray, List.set_cons_zero, List.set_cons_succ])
            | (refine lex_quiet rfl rfl rfl (fun K hK => ?_); unfold Reg; go_big_quiet_op; refine hK _ ?_; clear hK K))
          refine lex_rel rfl rfl (fun w' hb9 hK => ?_) (fun v w' hb9 hv => ?_)
          · clear hK
            unfold grows
            go_simp
            go_at_call 45
            exact call_isC (HC.out w' hb9)
          obtain rfl := hv
          simp only [Act.put, List.setIfInBounds_toArray, List.set_cons_zero, List.set_cons_succ]
          repeat (first
            | (refine lex_skip rfl ?_; simp only [Act.put, List.setIfInBounds_toArray, List.set_cons_zero, List.set_cons_succ])
            | (refine lex_quiet rfl rfl rfl (fun K hK => ?_); unfold Reg; go_big_quiet_op; refine hK _ ?_; clear hK K))
          refine lex_nil (fun w9 hC9 _ => ?_)
          have hb9 := reg_iff.1 hC9
          clear hC9
          clear q1 q2 q3 q4 q5 q6
          go_wp2
          go_roundw
          case rel => exact ⟨i + 1, by omega, by go_num, E, hb.trans (hb9.mono hbs)⟩
          case measure => simp [RowKit.intOf]; omega
      · have hi2 : i = n := by omega
        subst hi2
        have hq := hf.out
        rw [List.take_of_length_le (by rw [H1.out]; exact Nat.le_refl _), List.take_of_length_le (by rw [H2.out]; exact Nat.le_refl _)] at hq
        have E2 : Hid (r = true) := hide (by rw [Hr.out]; exact decide_eq_true hq)
        clear hf hq
        go_wp2
        go_ret
        exact ⟨by rw [E2.out]; rfl, hb⟩
  · have E2 : Hid (r = false) := hide (by rw [Hr.out]; exact decide_eq_false fun e => hnn (by rw [← h1, ← h2, e]))
    clear h1 h2
    go_enter Tryz.func16, Tryz.ntmps16
    go_wp2
    go_ret
    exact ⟨by rw [E2.out]; rfl, Below.refl _ _⟩
theorem showT_size {t : Tm} (h : t.set.length ≤ 1000) : (showT t).size ≤ 300000 := by
  unfold showT
  split
  · rename_i g
    have h1 := Label.fit_small t.name (okT_fit g)
    have h2 : (statesT t).size ≤ 200000 := by obtain ⟨nm, s, z⟩ := t; exact states_small rfl h
    simp only [ByteArray.size_append]
    have e1 : wBlank.size = 1 := rfl
    omega
  · exact Nat.zero_le _
theorem more_drop {l : List Tm} {t : Tm} {i : Nat} {s : ByteArray} (h : l[i]? = some t) : moreC s (l.drop i) = moreC (s ++ wAnd ++ showT t) (l.drop (i + 1)) := by
  obtain ⟨hi, e⟩ := List.getElem?_eq_some_iff.1 h
  rw [List.drop_eq_getElem_cons hi, e]
  rfl
set_option maxHeartbeats 8000000 in
set_option maxRecDepth 100000 in
theorem refShowC_any (l : List Tm) (A : Option Addr) (n c : Nat) (w : World) (h : TmOn w A n l) (hl : ∀ t ∈ l, t.name.size ≤ 1000000000 ∧ t.set.length ≤ 1000) (hn : n ≤ 1000) :
    Calls Tryz.prog 26 #[.slice A n c] w fun e w' => e = .returned (.string (showC l)) ∧ Below w.heap.size w w' := by
  cases l with
  | nil =>
    have hn0 : n = 0 := h.len.symm
    subst hn0
    show Calls _ _ _ _ fun e w' => e = .returned (.string wAlways) ∧ Below w.heap.size w w'
    unfold wAlways
    go_enter Tryz.func26, Tryz.ntmps26
    go_wp2
    go_ret
    exact ⟨rfl, Below.refl _ _⟩
  | cons t0 r0 =>
  obtain ⟨l, hlr⟩ : ∃ l, l = t0 :: r0 := ⟨_, rfl⟩
  obtain ⟨M, hM⟩ : ∃ M, M = showC (t0 :: r0) := ⟨_, rfl⟩
  rw [← hM]
  have HM : Hid (moreC (showT t0) (l.drop 1) = M) := hide (by rw [hM, hlr]; rfl)
  have hlen : Hid (l.length = n) := hide (by rw [hlr]; exact h.len)
  have h0 : Hid (l[0]? = some t0) := hide (by rw [hlr]; rfl)
  rw [← hlr] at h hl
  have hn1 : 0 < n := by have := hlen.out; rw [hlr] at this; simp at this; omega
  clear hM hlr
  have HD := hide (fun (i : Nat) (t : Tm) (s : ByteArray) (hx : l[i]? = some t) => @more_drop l t i s hx)
  have Hend : ∀ s, Hid (moreC s (l.drop n) = s) := fun s => hide (by rw [List.drop_of_length_le (by have := hlen.out; omega)]; rfl)
  have HS := hide (fun (i : Nat) (t : Tm) (hx : l[i]? = some t) (A1 : Option Addr) (n1 c1 : Nat) (wx : World) (hsx : SpOn wx A1 n1 t.set) => (by
    obtain ⟨g1, g2⟩ := hl t (List.mem_of_getElem? hx)
    have := refShowT_any t.name t.set t.none A1 n1 c1 wx hsx (by have := hsx.len; omega) g1
    unfold Tells at this
    exact this : Calls Tryz.prog 54 #[.agg #[.string t.name, .slice A1 n1 c1, .bool t.none]] wx fun e w' => e = .returned (.string (showT t)) ∧ Below wx.heap.size wx w'))
  have HZ := hide (fun (i : Nat) (t : Tm) (hx : l[i]? = some t) => showT_size (hl t (List.mem_of_getElem? hx)).2)
  obtain ⟨ad, t, A1, n1, c1, rfl, hbl, hx, hst, p1, p2, p3⟩ := TmIn.at_ h hn1
  have htt : t = t0 := by have := h0.out; rw [hx] at this; injection this
  subst htt
  have HS0 := hide (HS.out 0 t hx A1 n1 c1 w hst)
  have HZ0 := hide (HZ.out 0 t hx)
  rw [Nat.zero_mul, add_zero'] at p1 p2 p3
  have hi2 : (0 : Int) < (n : Int) := by omega
  have hne : ((n : Int) == 0) = false := beq_eq_false_iff_ne.2 (by omega)
  clear hx hst h0 hl
  generalize showT t = S0 at *
  go_enter Tryz.func26, Tryz.ntmps26
  go_wp2_with (first
    | (go_at_call 54
       refine HS0.out.mono ?_
       rintro e w1 ⟨rfl, hb1⟩))
  clear p1 p2 p3 HS0
  go_loopw [3, 4] (fun u v wr => ∃ (i : Nat) (s : ByteArray), 1 ≤ i ∧ i ≤ n ∧ u = .string s ∧ v = .int .i64 (i : Int) ∧ Hid (moreC s (l.drop i) = M) ∧ s.size ≤ i * 400000 ∧ Below w.heap.size w wr) (fun _ v _ => n - (RowKit.intOf v).toNat)
  case atStart => exact ⟨1, S0, by omega, by omega, rfl, rfl, HM, by have := HZ0.out; omega, hb1⟩
  case round =>
    obtain ⟨i, s, hi0, hi, rfl, rfl, hM, hsz, hb⟩ := hrel
    have hbs := hb.size
    by_cases hlt : i < n
    · obtain ⟨ad', t', A2, n2, c2, e2, hbl', hx, hst, p1, p2, p3⟩ := TmIn.at_ (TmIn.below h hb) hlt
      injection e2 with e2
      subst e2
      have hd := (HD.out i t' s hx).symm.trans hM.out
      have hz := HZ.out i t' hx
      have HS1 := hide (HS.out i t' hx A2 n2 c2 wr (hst.more hbs))
      have E := hide hd
      clear hx hst hd hM
      generalize showT t' = S1 at *
      unfold wAnd at E
      have hs1 : s.size ≤ 400000000 := by have : i * 400000 ≤ 1000 * 400000 := Nat.mul_le_mul_right _ (by omega); omega
      have hs2 : (s ++ ⟨#[32, 38, 32]⟩ ++ S1).size ≤ (i + 1) * 400000 := by
        simp only [ByteArray.size_append]
        have : (⟨#[32, 38, 32]⟩ : ByteArray).size = 3 := rfl
        omega
      have Hs2 := hide hs2
      have Hsz := hide hsz
      clear hs2 hsz
      go_wp2_with (first
        | (go_at_call 54
           refine HS1.out.mono ?_
           rintro e w2 ⟨rfl, hb2⟩))
      go_roundw
      case rel => exact ⟨i + 1, _, by omega, by omega, rfl, by go_num, E, Hs2.out, hb.trans (hb2.mono hbs)⟩
      case measure => simp [RowKit.intOf]; omega
    · have hi2 : i = n := by omega
      have e : Hid (M = s) := hide (by rw [← hM.out, hi2]; exact (Hend s).out)
      clear hM HM HD HS HZ Hend
      go_wp2
      go_ret
      exact ⟨by rw [e.out]; rfl, hb⟩
theorem three_at {w0 w : World} {B g : Nat} (h : Below B w0 w) (hg : B ≤ g) (u v x : Value) : Below B w0 (((w.setCell ⟨g, 0, none⟩ u).setCell ⟨g, 1, none⟩ v).setCell ⟨g, 2, none⟩ x) :=
  ((h.setCell hg u).setCell hg v).setCell hg x
def FindsT (w : World) (t : Tm) (is : Bool) (e : Ending) (w' : World) : Prop := ∃ A n c, e = .returned (.tuple #[.agg #[.string t.name, .slice A n c, .bool t.none], .bool is]) ∧ SpOn w' A n t.set ∧ Below w.heap.size w w'
theorem results_row_tmp {P : Program} {fn : Func} {p u : Tmp} {ty : TypeId} (h : fn.results = #[.cell p ty, .tmp u]) (tmps : Array Value) (w : World) (g : Nat) (t : TypeId) (cs : Array Value) (fr : Nat × Nat) (d : TypeDesc) (v : Value)
    (hp : tmps.getD p undef = .pointer (some ⟨g, 0, none⟩)) (hv : tmps.getD u undef = v) (hg : w.heap[g]? = some (.cells cs t fr))
    (hu : P.underlying ty = some d) (hd : (match d with | .struct _ | .array _ _ => true | _ => false) = true) (hi : (P.info? ty).map (·.size) = some cs.size) :
    (results fn tmps).run P w = .ok (.tuple #[.agg cs, v]) w := by
  rw [results_cell_tmp h]
  simp only [hp, hv, asAddr, Sem.run_pure, Result.andThen_ok, run_loadVar_row w g t ty cs fr d hg hu hd hi]
end Go.Proofs.YtpicnbidbddggaaGreat.Clash
/-
  Contracts of the document's Make and Join of clashes. Condition: terms that may be, of at most 10,000 spans together (for Join: 5,000), at most 1,000 of them.
-/
namespace Go.Proofs.YtpicnbidbddggaaGreat.Clash
open Go.Proofs.YtpicnbidbddggaaGreat.Pick (triP)
open Go Go.RowKit Go.Lib Go.Proofs.YtpicnbidbddggaaGreat.Span Go.Proofs.YtpicnbidbddggaaGreat.Need Go.Proofs.YtpicnbidbddggaaGreat.Grow Go.Proofs.YtpicnbidbddggaaGreat.Term
open Go.Proofs.YtpicnbidbddggaaGreat.Label (runes fitL)
set_option linter.unusedVariables false
def MakesC (w : World) (r : Option (List Tm)) (e : Ending) (w' : World) : Prop := ∃ A n c, e = .returned (.tuple #[.slice A n c, .bool r.isSome]) ∧ TmOn w' A n (r.getD []) ∧ Below w.heap.size w w'
theorem three_cells {w wx : World} {B : Nat} {ad : Addr} {k : Nat} {u1 u2 u3 : Value} (hb : Below B w wx) (had : ad.block < B)
    (c1 : w.cell? (ad.add k) = some u1) (c2 : w.cell? ⟨(ad.add k).block, (ad.add k).off + 1, none⟩ = some u2) (c3 : w.cell? ⟨(ad.add k).block, (ad.add k).off + 2, none⟩ = some u3) :
    wx.cell? (ad.add k) = some u1 ∧ wx.cell? ⟨(ad.add k).block, (ad.add k).off + 1, none⟩ = some u2 ∧ wx.cell? ⟨(ad.add k).block, (ad.add k).off + 2, none⟩ = some u3 :=
  ⟨(hb.cell (by rw [block_of_add]; exact had)).trans c1, (hb.cell (p := ⟨(ad.add k).block, (ad.add k).off + 1, none⟩) (by simp only [block_of_add]; exact had)).trans c2,
   (hb.cell (p := ⟨(ad.add k).block, (ad.add k).off + 2, none⟩) (by simp only [block_of_add]; exact had)).trans c3⟩
theorem own_one (w : World) (nm : ByteArray) (A : Option Addr) (n c : Nat) (z : Bool) (B : Nat) (hB : B ≤ w.heap.size) :
    (w.alloc (.cells #[.string nm, .slice A n c, .bool z] 65)).ownsRow B 65 3 (.slice (some ⟨w.heap.size, 0, none⟩) 1 1) 1 (tms [(nm, .slice A n c, z)]) :=
  ⟨rfl, .inr ⟨w.heap.size, 1, _, rfl, hB, heap_alloc_new w _, Nat.le_refl _, by decide, rfl, rfl⟩⟩
theorem left_step {P out : List Tm} {x : Tm} {i : Nat} {F : Option (List Tm)} (hF : (leftC (P.drop i)).map (fun q => out ++ q) = F) (hx : P[i]? = some x) :
    (emptyT x = true → F = none) ∧ (emptyT x = false → fullT x = true → (leftC (P.drop (i + 1))).map (fun q => out ++ q) = F) ∧ (emptyT x = false → fullT x = false → (leftC (P.drop (i + 1))).map (fun q => (out ++ [x]) ++ q) = F) := by
  rw [left_drop hx] at hF
  refine ⟨fun h => ?_, fun h h' => ?_, fun h h' => ?_⟩
  · rw [← hF, if_pos h]; rfl
  · rw [← hF, if_neg (by rw [h]; simp)]
    cases leftC (P.drop (i + 1)) <;> simp [h']
  · rw [← hF, if_neg (by rw [h]; simp)]
    cases leftC (P.drop (i + 1)) <;> simp [h']
end Go.Proofs.YtpicnbidbddggaaGreat.Clash
/-
  The contract of the document's Make of clashes once more, with the rows' types told. Condition: terms that may be, of at most 10,000 spans together, at most 1,000 of them.
-/
namespace Go.Proofs.YtpicnbidbddggaaGreat.Fact
open Go.Proofs.YtpicnbidbddggaaGreat.Pick (triP)
open Go Go.RowKit Go.Lib Go.Proofs.YtpicnbidbddggaaGreat.Span Go.Proofs.YtpicnbidbddggaaGreat.Need Go.Proofs.YtpicnbidbddggaaGreat.Grow Go.Proofs.YtpicnbidbddggaaGreat.Term Go.Proofs.YtpicnbidbddggaaGreat.Clash
set_option linter.unusedVariables false
set_option maxHeartbeats 8000000 in
set_option maxRecDepth 100000 in
theorem refMakeR_any (l : List Tm) (A : Option Addr) (n c : Nat) (w : World) (h : TmR w w.heap.size A n l) (hok : ∀ t ∈ l, okT t = true) (hsum : sumC l ≤ 10000) (hn : n ≤ 1000) :
    Calls Tryz.prog 32 #[.slice A n c] w (MakesR w (makeC l)) := by
  unfold MakesR
  obtain ⟨i0, hi0, hz0, hz1, hz2⟩ := info_parts info_term
  have hlen := hide h.len
  have HP := hide (fun (i : Nat) (t : Tm) (hx : l[i]? = some t) => puts_snoc l hx)
  have HL := hide (fun i hi => puts_length l i hi)
  have HZ := hide (fun i (hi : i ≤ l.length) z (hz : z ∈ putsC (l.take i)) => Nat.le_trans (puts_size hok i hi z hz) (Nat.le_trans (sumC_take l i) hsum))
  have HT := hide (fun t (ht : t ∈ l) => Nat.le_trans (sumC_mem ht) hsum)
  obtain ⟨F, hF⟩ : ∃ F, F = makeC l := ⟨_, rfl⟩
  rw [← hF]
  have HF : Hid (leftC (putsC l) = F) := hide (by rw [hF, make_left])
  have HS : Hid (∀ x ∈ putsC l, x.set.length ≤ 1000000001) := hide (fun x hx => by
    have := HZ.out l.length (Nat.le_refl _) x (by rw [List.take_length]; exact hx)
    omega)
  clear hF hok hsum
  go_enter Tryz.func32, Tryz.ntmps32
  go_wp2
  go_loopw [4, 6] (fun u v wr => ∃ (i k : Nat) (Aa : Option Addr) (ca : Nat), i ≤ n ∧ u = .slice Aa k ca ∧ v = .int .i64 (i : Int) ∧ TmR wr wr.heap.size Aa k (putsC (l.take i)) ∧ Below w.heap.size w wr) (fun _ v _ => n - (RowKit.intOf v).toNat)
  case atStart => exact ⟨0, 0, none, 0, by omega, rfl, rfl, TmR.nil _ _ _, Below.refl _ _⟩
  case round =>
    obtain ⟨i, k, Aa, ca, hi, rfl, rfl, hP, hb⟩ := hrel
    have hbs := hb.size
    have hk : k ≤ 1000 := by have := hP.len; have := HL.out i (by have := hlen.out; omega); omega
    by_cases hlt : i < n
    · obtain ⟨ad, t, A', n', c', rfl, hbl, hx, hs, c1, c2, c3, hty⟩ := TmR.at_ (TmR.below h hb (Nat.le_refl _) hb.size) hlt
      have hz := HT.out t (List.mem_of_getElem? hx)
      have hsl := hs.1
      have HQ := hide (refPutR_any (putsC (l.take i)) t.name t.set t.none Aa A' k ca n' c' wr hP hty (fun q hq => HZ.out i (by have := hlen.out; omega) q hq) (by omega) (by omega))
      have HE := hide (HP.out i t hx)
      clear hx hs hty hz hsl hP h HP HL HZ HT HF
      go_wp2_with (first
        | (go_at_call 63
           refine HQ.out.mono ?_
           rintro e w1 ⟨A2, n2, c2', rfl, h2, hb2⟩
           have hbw := hb.trans (hb2.mono hbs)))
      go_roundw
      case rel => exact ⟨i + 1, n2, A2, c2', by omega, rfl, by go_num, by rw [HE.out]; exact h2, hbw⟩
      case measure => simp [RowKit.intOf]; omega
    · have hin : l.take i = l := by rw [List.take_of_length_le]; have := hlen.out; omega
      rw [hin] at hP
      generalize putsC l = P at *
      have Hlen := hide hP.len
      clear h HP HL HZ HT hin
      obtain ⟨V, hV⟩ : ∃ V, V = wr := ⟨_, rfl⟩
      subst hV
      go_wp2
      go_loopw [5, 7] (fun u v wz => ∃ (j m : Nat) (rs : List Rt) (out : List Tm), j ≤ k ∧ m ≤ j ∧ v = .int .i64 (j : Int) ∧ TmsR wz V.heap.size u m rs out ∧ Hid ((leftC (P.drop j)).map (fun q => out ++ q) = F) ∧ Below V.heap.size V wz) (fun _ v _ => k - (RowKit.intOf v).toNat)
      case atStart => exact ⟨0, 0, [], [], by omega, by omega, rfl, TmsR.nil_ _ _, hide (by rw [List.drop_zero, HF.out]; cases F <;> simp), Below.refl _ _⟩
      case round =>
        obtain ⟨j, m, rs, out, hj, hm, rfl, hN, hL, hbz⟩ := hrel
        obtain ⟨Ax, cx, rfl, hcx, hx0⟩ := hN.told
        have hbzs := hbz.size
        by_cases hjk : j < k
        · obtain ⟨ad, x, A', n', c', rfl, hbl, hx, hs0, c1, c2, c3, hty⟩ := TmR.at_ hP hjk
          have hsl := hs0.1
          have hs : SpIn V V.heap.size A' n' x.set := hs0
          have hst := left_step hL.out hx
          have S1 := hide hst.1
          have S2 := hide hst.2.1
          have S3 := hide hst.2.2
          have hsx0 : n' ≤ 1000000001 := by
            rw [← hsl]
            exact HS.out x (List.mem_of_getElem? hx)
          have HX := hide (fun (wx : World) (hbx : Below V.heap.size V wx) => three_cells (k := j * 3) hbx hbl c1 c2 c3)
          have Hx : Hid (InS V 0 A' n' x.set) := hide hty
          have HEm : Hid (∀ wx, Below V.heap.size V wx → Calls Tryz.prog 64 #[.agg #[.string x.name, .slice A' n' c', .bool x.none]] wx fun e w' => e = .returned (.bool (emptyT x)) ∧ Below wx.heap.size wx w') := hide (fun wx hbx => by
            have hsx : SpOn wx A' n' x.set := (hs.below hbx).more hbx.size
            have := refEmptyT_any x.name x.set x.none A' n' c' wx hsx
            unfold Tells at this
            exact this)
          have HFu : Hid (∀ wx, Below V.heap.size V wx → Calls Tryz.prog 65 #[.agg #[.string x.name, .slice A' n' c', .bool x.none]] wx fun e w' => e = .returned (.bool (fullT x)) ∧ Below wx.heap.size wx w') := hide (fun wx hbx => by
            have hsx : SpOn wx A' n' x.set := (hs.below hbx).more hbx.size
            have := refFullT_any x.name x.set x.none A' n' c' wx hsx hsx0
            unfold Tells at this
            exact this)
          clear hst hx hs0 hs hty hsl hP hL HF c1 c2 c3
          generalize emptyT x = em at *
          generalize fullT x = fu at *
          obtain ⟨c1, c2, c3⟩ := HX.out _ hbz
          cases em with
          | true =>
            have e : Hid (F = none) := hide (S1.out rfl)
            clear S1 S2 S3
            go_wp2_with (first
              | (go_at_call 64
                 refine (HEm.out _ hbz).mono ?_
                 rintro e w1 ⟨rfl, hb1⟩))
            go_ret2
            exact ⟨none, 0, 0, by rw [e.out]; rfl, by rw [e.out]; exact TmR.nil _ _ _, hb.trans ((hbz.trans (hb1.mono hbzs)).mono hbs)⟩
          | false =>
          cases fu with
          | true =>
            have e := hide (S2.out rfl rfl)
            clear S1 S2 S3
            go_wp2_with (first
              | (go_at_call 65
                 refine (HFu.out _ hb1).mono ?_
                 rintro e w2 ⟨rfl, hb2x⟩
                 have N2 := N1.below hb2x
                 have hb2 := hb1.trans (hb2x.mono hb1.size))
              | (go_at_call 64
                 refine (HEm.out _ hbz).mono ?_
                 rintro e w1 ⟨rfl, hb1x⟩
                 have N1 := hN.below hb1x
                 have hb1 := hbz.trans (hb1x.mono hbzs)
                 obtain ⟨d1, d2, d3⟩ := HX.out _ hb1))
            go_roundw
            case rel => exact ⟨j + 1, m, _, _, by omega, by omega, by go_num, N2, e, hb2⟩
            case measure => simp [RowKit.intOf]; omega
          | false =>
            have e := hide (S3.out rfl rfl)
            clear S1 S2 S3
            obtain ⟨xn, xs, xz⟩ := x
            simp only [] at c1 c2 c3 HX HEm HFu Hx
            go_upto_region 12 with (first
              | (go_at_call 65
                 refine (HFu.out _ hb1).mono ?_
                 rintro e w2 ⟨rfl, hb2x⟩
                 have N2 := N1.below hb2x
                 have hb2 := hb1.trans (hb2x.mono hb1.size)
                 have hs2 := hb2.size
                 obtain ⟨g1, g2, g3⟩ := HX.out _ hb2)
              | (go_at_call 64
                 refine (HEm.out _ hbz).mono ?_
                 rintro e w1 ⟨rfl, hb1x⟩
                 have N1 := hN.below hb1x
                 have hb1 := hbz.trans (hb1x.mono hbzs)
                 obtain ⟨d1, d2, d3⟩ := HX.out _ hb1))
            go_wp2_with (first
              | (at_builtin
                 refine wpList_append_any _ rfl (.tmp 37) (.tmp 42) _ rfl V.heap.size 65 i0 _ 3 48 Tryz.underlying35 hi0 hz0 hz1 hz2 rfl (by omega) _ m (tms rs) rfl
                   (own_below N2.1 (alloc_b _)) _ _ 1 _ _ rfl (reads_term _ xn A' n' c' xz _ _ (by simp)) (one_term _ _ _ _ _) (by unfold maxLen; omega) (by omega) (by simp; omega) ?_
                 intro v3 w3 hown3 hg3 hat3
                 have hA3 := (alloc_b (w := w2) (.cells #[.string xn, .slice A' n' c', .bool xz] 65))
                 have N3 := (N2.below hA3).cat (AllT.one (z := xz) (InS.below (Hx.out.below hb2) hA3)) hown3 hg3
                 have h3 : Below V.heap.size V w3 := (hb2.trans (hA3.mono hs2)).grown hg3 (by simp; omega) (fun k hk => (N2.1.lt k hk).1)))
            go_roundw
            case rel => exact ⟨j + 1, m + 1, _, _, by omega, by omega, by go_num, N3, e, h3⟩
            case measure => simp [RowKit.intOf]; omega
        · have e : Hid (F = some out) := hide (by rw [← hL.out, List.drop_of_length_le (by have := Hlen.out; omega)]; simp [leftC])
          clear hL HF hP
          go_wp2
          go_ret2
          exact ⟨Ax, m, cx, by rw [e.out]; rfl, by rw [e.out]; exact hx0, hb.trans (hbz.mono hbs)⟩
end Go.Proofs.YtpicnbidbddggaaGreat.Fact
/-
  The contract of the document's own Same of facts and steps, at two lists each that are alike: true. Condition: lists of a length that may be walked.
-/
namespace Go.Proofs.YtpicnbidbddggaaGreat.Fact
open Go Go.RowKit Go.Lib Go.Proofs.YtpicnbidbddggaaGreat.Span Go.Proofs.YtpicnbidbddggaaGreat.Need Go.Proofs.YtpicnbidbddggaaGreat.Grow Go.Proofs.YtpicnbidbddggaaGreat.Term Go.Proofs.YtpicnbidbddggaaGreat.Clash
set_option linter.unusedVariables false
set_option maxRecDepth 100000 in
theorem eq_step (k : Int) (n : ByteArray) (v : Int) (d : ByteArray) (a b : Int) (w : World) : (Op.equalIn 10000 93 (.agg #[.int .i64 k, .string n, .int .i64 v, .string d, .int .i64 a, .int .i64 b]) (.agg #[.int .i64 k, .string n, .int .i64 v, .string d, .int .i64 a, .int .i64 b])).run Tryz.prog w = .ok true w := by
  have hf : Tryz.prog.underlying 93 = some (.struct (Tryz.prog.fieldsOf 93)) := by kernel_rfl
  have hs : Tryz.prog.stoodInHeld 93 = false := by kernel_rfl
  have hl := hf.symm.trans Tryz.underlying93
  injection hl with hl
  injection hl with hl
  have ha : ∀ w, (isAgg 3).run Tryz.prog w = .ok false w := Tryz.isAgg3
  rw [run_equalIn_struct w 9999 _ _ _ hf hs, hl]
  have ha2 : ∀ w, (isAgg 9).run Tryz.prog w = .ok false w := Tryz.isAgg9
  simp [Op.eqFields, part, ha, ha2, run_equalIn_string _ 9998 9 _ _ Tryz.underlying9, run_equalIn_int _ 9998 3 .i64 .i64 _ _ Tryz.underlying3]
set_option maxHeartbeats 8000000 in
set_option maxRecDepth 100000 in
theorem refSameF_yes (L : List (List Tm)) (l : List Sp) (A1 A2 A3 A4 : Option Addr) (n1 c1 n2 c2 n3 c3 n4 c4 : Nat) (w : World) (h1 : FcOn w A1 n1 L) (h2 : FcOn w A2 n2 L) (h3 : SsOn w A3 n3 l) (h4 : SsOn w A4 n4 l) (hs : ∀ c ∈ L, ShortT c ∧ c.length ≤ 1000000) (hn : n1 ≤ 140737488355328) (hn3 : n3 ≤ 140737488355328) :
    Calls Tryz.prog 21 #[.slice A1 n1 c1, .slice A2 n2 c2, .slice A3 n3 c3, .slice A4 n4 c4] w fun e w' => e = .returned (.bool true) ∧ Below w.heap.size w w' := by
  obtain rfl : n1 = n2 := by rw [← h1.len, ← h2.len]
  obtain rfl : n3 = n4 := by rw [← SsIn.len h3, ← SsIn.len h4]
  have heq := eq_step
  go_enter Tryz.func21, Tryz.ntmps21
  go_wp2
  go_loopw [9] (fun v wr => ∃ (i : Nat), i ≤ n1 ∧ v = .int .i64 (i : Int) ∧ Below w.heap.size w wr) (fun v _ => n1 - (RowKit.intOf v).toNat)
  case atStart => exact ⟨0, by omega, rfl, Below.refl _ _⟩
  case round =>
    obtain ⟨i, hi, rfl, hb⟩ := hrel
    have hbs := hb.size
    by_cases hlt : i < n1
    · obtain ⟨ad, c, A', n', c', rfl, hbl, hx, ht, p1⟩ := FcIn.at_ (FcIn.below h1 hb) hlt
      obtain ⟨ad', cx, A'', n'', c'', rfl, hbl', hx', ht', r1⟩ := FcIn.at_ (FcIn.below h2 hb) hlt
      rw [hx] at hx'
      injection hx' with hx'
      subst hx'
      obtain ⟨hsh, hcl⟩ := hs c (List.mem_of_getElem? hx)
      have HC : Hid (∀ wx, Below wr.heap.size wr wx → Calls Tryz.prog 16 #[.slice A' n' c', .slice A'' n'' c''] wx fun e w' => e = .returned (.bool true) ∧ Below wx.heap.size wx w') := hide (fun wx hbx => by
        have hT := (ht.below (hbx.mono hbs)).more (Nat.le_trans hbs hbx.size)
        have := refSameC_any c c A' A'' n' c' n'' c'' wx hT ((ht'.below (hbx.mono hbs)).more (Nat.le_trans hbs hbx.size)) hsh hsh (by have := hT.len; omega)
        rw [decide_eq_true rfl] at this
        exact this)
      have q1 := cell_in p1 (by rw [block_of_add]; omega)
      have q2 := cell_in r1 (by rw [block_of_add]; omega)
      have hi1 : (0 : Int) ≤ (i : Int) := by omega
      have hi2 : (i : Int) < (n1 : Int) := by omega
      clear hx ht ht' hsh hcl hs h1 h2 h3 h4 p1 r1 heq
      go_upto_region 6 with fail
      refine wp_region_grow [(37, isC (.bool true))] [37]
        (by kernel_rfl) (by kernel_rfl) rfl (by kernel_rfl) (by kernel_rfl) ⟨isC_stable _, trivial⟩ ?_
      repeat (first
        | (refine lex_skip rfl ?_; simp only [Act.put, List.setIfInBounds_toArray, List.set_cons_zero, List.set_cons_succ])
        | (refine lex_quiet rfl rfl rfl (fun K hK => ?_); unfold Reg; go_big_quiet_op; refine hK _ ?_; clear hK K))
      refine lex_rel rfl rfl (fun w' hb9 hK => ?_) (fun v w' hb9 hv => ?_)
      · clear hK
        unfold grows
        go_simp
        go_at_call 16
        exact call_isC (HC.out w' hb9)
      obtain rfl := hv
      simp only [Act.put, List.setIfInBounds_toArray, List.set_cons_zero, List.set_cons_succ]
      repeat (first
        | (refine lex_skip rfl ?_; simp only [Act.put, List.setIfInBounds_toArray, List.set_cons_zero, List.set_cons_succ])
        | (refine lex_quiet rfl rfl rfl (fun K hK => ?_); unfold Reg; go_big_quiet_op; refine hK _ ?_; clear hK K))
      refine lex_nil (fun w9 hC9 _ => ?_)
      have hb9 := reg_iff.1 hC9
      clear hC9 q1 q2
      have hb2 := hb.trans (hb9.mono hbs)
      go_wp2
      go_roundw
      case rel => exact ⟨i + 1, by omega, by go_num, hb2⟩
      case measure => simp [RowKit.intOf]; omega
    · obtain ⟨V, hV⟩ : ∃ V, V = wr := ⟨_, rfl⟩
      subst hV
      clear h1 h2 hs
      go_wp2
      go_loopw [10] (fun v wr => ∃ (k : Nat), k ≤ n3 ∧ v = .int .i64 (k : Int) ∧ Below w.heap.size w wr) (fun v _ => n3 - (RowKit.intOf v).toNat)
      case atStart => exact ⟨0, by omega, rfl, hb⟩
      case round =>
        clear hb hbs
        obtain ⟨k, hk, rfl, hb⟩ := hrel
        have hbs := hb.size
        by_cases hkt : k < n3
        · obtain ⟨ad, q, rfl, hbl, hx, p0, p1, p2, p3, p4, p5⟩ := SsIn.at_ (SsIn.below h3 hb) hkt
          obtain ⟨ad', qx, rfl, hbl', hx', r0, r1, r2, r3, r4, r5⟩ := SsIn.at_ (SsIn.below h4 hb) hkt
          rw [hx] at hx'
          injection hx' with hx'
          subst hx'
          have hq := fun (wx : World) => heq q.kind q.name q.ver q.dest q.a q.b wx
          have q0 := cell_in p0 (by rw [block_of_add]; omega)
          have q1 := cell_in p1 (by simp only [block_of_add]; omega)
          have q2 := cell_in p2 (by simp only [block_of_add]; omega)
          have q3 := cell_in p3 (by simp only [block_of_add]; omega)
          have q4 := cell_in p4 (by simp only [block_of_add]; omega)
          have q5 := cell_in p5 (by simp only [block_of_add]; omega)
          have s0 := cell_in r0 (by rw [block_of_add]; omega)
          have s1 := cell_in r1 (by simp only [block_of_add]; omega)
          have s2 := cell_in r2 (by simp only [block_of_add]; omega)
          have s3 := cell_in r3 (by simp only [block_of_add]; omega)
          have s4 := cell_in r4 (by simp only [block_of_add]; omega)
          have s5 := cell_in r5 (by simp only [block_of_add]; omega)
          have hi1 : (0 : Int) ≤ (k : Int) := by omega
          have hi2 : (k : Int) < (n3 : Int) := by omega
          clear hx p0 p1 p2 p3 p4 p5 r0 r1 r2 r3 r4 r5 h3 h4 heq
          go_upto_region 11 with fail
          refine wp_region_grow [] []
            (by kernel_rfl) (by kernel_rfl) rfl (by kernel_rfl) (by kernel_rfl) trivial ?_
          repeat (first
            | (refine lex_skip rfl ?_; simp only [Act.put, List.setIfInBounds_toArray, List.set_cons_zero, List.set_cons_succ])
            | (refine lex_quiet rfl rfl rfl (fun K hK => ?_); unfold Reg; go_big_quiet_op; refine hK _ ?_; clear hK K))
          refine lex_nil (fun w9 hC9 _ => ?_)
          have hb9 := reg_iff.1 hC9
          clear hC9 q0 q1 q2 q3 q4 q5 s0 s1 s2 s3 s4 s5 hq
          have hb2 := hb.trans (hb9.mono hbs)
          go_wp2
          go_roundw
          case rel => exact ⟨k + 1, by omega, by go_num, hb2⟩
          case measure => simp [RowKit.intOf]; omega
        · clear heq h3 h4
          go_wp2
          go_ret
          exact ⟨rfl, hb⟩
end Go.Proofs.YtpicnbidbddggaaGreat.Fact
