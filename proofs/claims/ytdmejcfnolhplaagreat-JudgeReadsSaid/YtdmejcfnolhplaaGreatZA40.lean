/-
  Some texts of this claim, one behind the other: ClashRefTold, ClashRefMake, FactRefMake, JudgeRefJoin, ClashSpec. What each proves, and its condition, stands at its head.
-/
import Derived.Test.YtdmejcfnolhplaaGreatZA39
import Derived.Test.YtdmejcfnolhplaaGreatZA37
import Derived.Test.YtdmejcfnolhplaaGreatZA18
import Derived.Test.YtdmejcfnolhplaaGreatZA24
import Derived.Test.YtdmejcfnolhplaaGreatZA7
import Derived.Test.YtdmejcfnolhplaaGreatZA11
import Derived.Test.YtdmejcfnolhplaaGreatZA14
import Derived.Shelf.Strings.OnBuilder
import Derived.Test.YtdmejcfnolhplaaGreatZA38
import Derived.Test.YtdmejcfnolhplaaGreatZA25
/-
  Contracts of the document's Same, Holds, Show and Find of clashes. Condition: the slices read as terms; for Holds sets; for Show at most 1,000 spans each, at most 1,000 terms.
-/
namespace Go.Proofs.YtdmejcfnolhplaaGreat.Clash
open Go.Proofs.YtdmejcfnolhplaaGreat.Pick (Pk PkOn getP)
open Go Go.RowKit Go.Lib Go.Proofs.YtdmejcfnolhplaaGreat.Span Go.Proofs.YtdmejcfnolhplaaGreat.Need Go.Proofs.YtdmejcfnolhplaaGreat.Grow Go.Proofs.YtdmejcfnolhplaaGreat.Term
open Go.Proofs.YtdmejcfnolhplaaGreat.Label (runes fitL)
set_option linter.unusedVariables false
theorem alikeC_snoc {l m : List Tm} {i : Nat} {s t : Tm} (h : l.take i = m.take i) (h1 : l[i]? = some s) (h2 : m[i]? = some t) (h3 : s = t) : l.take (i + 1) = m.take (i + 1) := by
  rw [List.take_add_one, List.take_add_one, h, h1, h2, h3]
theorem alikeC_ne {l m : List Tm} {i : Nat} {s t : Tm} (h1 : l[i]? = some s) (h2 : m[i]? = some t) (h3 : ¬ s = t) : decide (l = m) = false := by
  refine decide_eq_false fun e => ?_
  subst e
  rw [h1] at h2
  injection h2 with h2
  exact h3 h2
def ShortT (l : List Tm) : Prop := ∀ t ∈ l, t.set.length ≤ 1000000001
set_option maxHeartbeats 8000000 in
set_option maxRecDepth 100000 in
theorem refSameC_any (l m : List Tm) (A A' : Option Addr) (n c n' c' : Nat) (w : World) (h : TmOn w A n l) (h' : TmOn w A' n' m) (hl : ShortT l) (hm : ShortT m) (hn : n ≤ 140737488355328) :
    Calls Tryz.prog 18 #[.slice A n c, .slice A' n' c'] w fun e w' => e = .returned (.bool (decide (l = m))) ∧ Below w.heap.size w w' := by
  have h1 := h.len
  have h2 := h'.len
  obtain ⟨r, hr⟩ : ∃ r, r = decide (l = m) := ⟨_, rfl⟩
  rw [← hr]
  have Hr := hide hr
  clear hr
  by_cases hnn : n = n'
  · subst hnn
    have H1 := hide h1
    have H2 := hide h2
    clear h1 h2
    go_enter Tryz.func18, Tryz.ntmps18
    go_wp2
    go_loopw [5] (fun v wr => ∃ (i : Nat), i ≤ n ∧ v = .int .i64 (i : Int) ∧ Hid (l.take i = m.take i) ∧ Below w.heap.size w wr) (fun v _ => n - (RowKit.intOf v).toNat)
    case atStart => exact ⟨0, by omega, rfl, hide rfl, Below.refl _ _⟩
    case round =>
      obtain ⟨i, hi, rfl, hf, hb⟩ := hrel
      have hbs := hb.size
      by_cases hlt : i < n
      · obtain ⟨ad, t, A1, n1, c1, rfl, hbl, hx, hs, p1, p2, p3⟩ := TmIn.at_ (TmIn.below h hb) hlt
        obtain ⟨ad', u, A2, n2, c2, rfl, hbl', hx', hs', r1, r2, r3⟩ := TmIn.at_ (TmIn.below h' hb) hlt
        have hsn := hide (@alikeC_snoc l m i t u hf.out hx hx')
        have hne := hide (@alikeC_ne l m i t u hx hx')
        have hq1 := hl t (List.mem_of_getElem? hx)
        have hq2 := hm u (List.mem_of_getElem? hx')
        have g1 := hs.1
        have g2 := hs'.1
        have HC : Hid (∀ wx, Below wr.heap.size wr wx → Calls Tryz.prog 33 #[.agg #[.string t.name, .slice A1 n1 c1, .bool t.none], .agg #[.string u.name, .slice A2 n2 c2, .bool u.none]] wx fun e w' => e = .returned (.bool (decide (t = u))) ∧ Below wx.heap.size wx w') := hide (fun wx hbx => by
          have := refSameT_any t.name u.name t.set u.set t.none u.none A1 A2 n1 c1 n2 c2 wx ((hs.below (hbx.mono hbs)).more (Nat.le_trans hbs hbx.size)) ((hs'.below (hbx.mono hbs)).more (Nat.le_trans hbs hbx.size)) (by omega) (by omega)
          rw [same_is] at this
          unfold Tells at this
          exact this)
        have q1 := cell_in p1 (by rw [block_of_add]; omega)
        have q2 := cell_in p2 (by simp only [block_of_add]; omega)
        have q3 := cell_in p3 (by simp only [block_of_add]; omega)
        have q4 := cell_in r1 (by rw [block_of_add]; omega)
        have q5 := cell_in r2 (by simp only [block_of_add]; omega)
        have q6 := cell_in r3 (by simp only [block_of_add]; omega)
        have hi1 : (0 : Int) ≤ (i : Int) := by omega
        have hi2 : (i : Int) < (n : Int) := by omega
        have Hy := hide (show decide (t = u) = true → t = u from of_decide_eq_true)
        have Hn := hide (show decide (t = u) = false → ¬ t = u from of_decide_eq_false)
        clear hx hx' hf hs hs' hq1 hq2 h h' hbl hbl' p1 p2 p3 r1 r2 r3 g1 g2
        generalize decide (t = u) = b at *
        cases b with
        | false =>
          have E2 : Hid (r = false) := hide (by rw [Hr.out]; exact hne.out (Hn.out rfl))
          clear Hy Hn hsn hne
          go_upto_region 6 with fail
          refine wp_region_grow [(25, isC (.bool false))] [25]
            (by kernel_rfl) (by kernel_rfl) rfl (by kernel_rfl) (by kernel_rfl) ⟨isC_stable _, trivial⟩ ?_
          repeat (first
            | (refine lex_skip rfl ?_; simp only [Act.put, List.setIfInBounds_toArray, List.set_cons_zero, List.set_cons_succ])
            | (refine lex_quiet rfl rfl rfl (fun K hK => ?_); unfold Reg; go_big_quiet_op; refine hK _ ?_; clear hK K))
          refine lex_rel rfl rfl (fun w' hb9 hK => ?_) (fun v w' hb9 hv => ?_)
          · clear hK
            unfold grows
            go_simp
            go_at_call 33
            exact call_isC (HC.out w' hb9)
          obtain rfl := hv
          simp only [Act.put, List.setIfInBounds_toArray, List.set_cons_zero, List.set_cons_succ]
          repeat (first
            | (refine lex_skip rfl ?_; simp only [Act.put, List.setIfInBounds_toArray, List.set_cons_zero, List.set_cons_succ])
            | (refine lex_quiet rfl rfl rfl (fun K hK => ?_); unfold Reg; go_big_quiet_op; refine hK _ ?_; clear hK K))
          refine lex_nil (fun w9 hC9 _ => ?_)
          have hb9 := reg_iff.1 hC9
          clear hC9
          clear q1 q2 q3 q4 q5 q6
          go_wp2
          go_ret
          exact ⟨by rw [E2.out]; rfl, hb.trans (hb9.mono hbs)⟩
        | true =>
          have E := hide (hsn.out (Hy.out rfl))
          clear Hy Hn hsn hne
          go_upto_region 6 with fail
          refine wp_region_grow [(25, isC (.bool true))] [25]
            (by kernel_rfl) (by kernel_rfl) rfl (by kernel_rfl) (by kernel_rfl) ⟨isC_stable _, trivial⟩ ?_
          repeat (first
            | (refine lex_skip rfl ?_; simp only [Act.put, List.setIfInBounds_toArray, List.set_cons_zero, List.set_cons_succ])
            | (refine lex_quiet rfl rfl rfl (fun K hK => ?_); unfold Reg; go_big_quiet_op; refine hK _ ?_; clear hK K))
          refine lex_rel rfl rfl (fun w' hb9 hK => ?_) (fun v w' hb9 hv => ?_)
          · clear hK
            unfold grows
            go_simp
            go_at_call 33
            exact call_isC (HC.out w' hb9)
          obtain rfl := hv
          simp only [Act.put, List.setIfInBounds_toArray, List.set_cons_zero, List.set_cons_succ]
          repeat (first
            | (refine lex_skip rfl ?_; simp only [Act.put, List.setIfInBounds_toArray, List.set_cons_zero, List.set_cons_succ])
            | (refine lex_quiet rfl rfl rfl (fun K hK => ?_); unfold Reg; go_big_quiet_op; refine hK _ ?_; clear hK K))
          refine lex_nil (fun w9 hC9 _ => ?_)
          have hb9 := reg_iff.1 hC9
          clear hC9
          clear q1 q2 q3 q4 q5 q6
          go_wp2
          go_roundw
          case rel => exact ⟨i + 1, by omega, by go_num, E, hb.trans (hb9.mono hbs)⟩
          case measure => simp [RowKit.intOf]; omega
      · have hi2 : i = n := by omega
        subst hi2
        have hq := hf.out
        rw [List.take_of_length_le (by rw [H1.out]; exact Nat.le_refl _), List.take_of_length_le (by rw [H2.out]; exact Nat.le_refl _)] at hq
        have E2 : Hid (r = true) := hide (by rw [Hr.out]; exact decide_eq_true hq)
        clear hf hq
        go_wp2
        go_ret
        exact ⟨by rw [E2.out]; rfl, hb⟩
  · have E2 : Hid (r = false) := hide (by rw [Hr.out]; exact decide_eq_false fun e => hnn (by rw [← h1, ← h2, e]))
    clear h1 h2
    go_enter Tryz.func18, Tryz.ntmps18
    go_wp2
    go_ret
    exact ⟨by rw [E2.out]; rfl, Below.refl _ _⟩
theorem three_at {w0 w : World} {B g : Nat} (h : Below B w0 w) (hg : B ≤ g) (u v x : Value) : Below B w0 (((w.setCell ⟨g, 0, none⟩ u).setCell ⟨g, 1, none⟩ v).setCell ⟨g, 2, none⟩ x) :=
  ((h.setCell hg u).setCell hg v).setCell hg x
def FindsT (w : World) (t : Tm) (is : Bool) (e : Ending) (w' : World) : Prop := ∃ A n c, e = .returned (.tuple #[.agg #[.string t.name, .slice A n c, .bool t.none], .bool is]) ∧ SpOn w' A n t.set ∧ Below w.heap.size w w'
theorem term_size : (Tryz.prog.info? 77).map (·.size) = some 3 := by kernel_rfl
theorem results_row_tmp {P : Program} {fn : Func} {p u : Tmp} {ty : TypeId} (h : fn.results = #[.cell p ty, .tmp u]) (tmps : Array Value) (w : World) (g : Nat) (t : TypeId) (cs : Array Value) (fr : Nat × Nat) (d : TypeDesc) (v : Value)
    (hp : tmps.getD p undef = .pointer (some ⟨g, 0, none⟩)) (hv : tmps.getD u undef = v) (hg : w.heap[g]? = some (.cells cs t fr))
    (hu : P.underlying ty = some d) (hd : (match d with | .struct _ | .array _ _ => true | _ => false) = true) (hi : (P.info? ty).map (·.size) = some cs.size) :
    (results fn tmps).run P w = .ok (.tuple #[.agg cs, v]) w := by
  rw [results_cell_tmp h]
  simp only [hp, hv, asAddr, Sem.run_pure, Result.andThen_ok, run_loadVar_row w g t ty cs fr d hg hu hd hi]
theorem spIn_far {w : World} {B n : Nat} {ad : Addr} {l : List S} (h : SpIn w B (some ad) n l) {p : Addr} (hp : ad.block ≠ p.block) (v : Value) : SpIn (w.setCell p v) B (some ad) n l := by
  refine ⟨h.1, fun hn => ?_⟩
  obtain ⟨ad', hA, hlt, hc⟩ := h.2 hn
  injection hA with hA
  subst hA
  refine ⟨ad, rfl, hlt, fun i t ht => ?_⟩
  obtain ⟨c1, c2⟩ := hc i t ht
  constructor
  · rw [World.cell?_setCell_other _ _ _ _ (fun e => hp (by rw [e]; exact (block_of_add ad (i * 2)).symm))]
    exact c1
  · rw [World.cell?_setCell_other _ _ _ _ (fun e => hp (by rw [e]; exact (block_of_add ad (i * 2)).symm))]
    exact c2
theorem refAll_new (w : World) :
    Calls Tryz.prog 128 #[] w fun e w' => e = .returned (.slice (some ⟨w.heap.size, 0, none⟩) 1 1) ∧ SpOn w' (some ⟨w.heap.size, 0, none⟩) 1 [(0, 1000000000)] ∧ Below w.heap.size w w' := by
  have hrd := hide (spOn_one w 0 1000000000 _ rfl)
  go_enter Tryz.func128, Tryz.ntmps128
  go_wp2
  go_ret
  exact ⟨rfl, hrd.out, (Below.refl _ _).alloc (Nat.le_refl _) _⟩
set_option maxHeartbeats 8000000 in
set_option maxRecDepth 100000 in
theorem refFindC_any (l : List Tm) (nm : ByteArray) (A : Option Addr) (n c : Nat) (w : World) (h : TmOn w A n l) (hn : n ≤ 140737488355328) :
    Calls Tryz.prog 91 #[.slice A n c, .string nm] w (FindsT w (foundC l nm) (findC l nm).isSome) := by
  unfold FindsT
  have hlen := hide h.len
  have Hd := hide (fun i t => @findC_drop l nm t i)
  have Hend : Hid (findC (l.drop n) nm = none) := hide (by rw [List.drop_of_length_le (by have := hlen.out; omega)]; rfl)
  have HA := hide (fun wx => refAll_new wx)
  obtain ⟨r, hr⟩ : ∃ r, r = findC l nm := ⟨_, rfl⟩
  have Hr : Hid (r = findC (l.drop 0) nm) := hide hr
  have Hf : Hid (foundC l nm = r.getD (fullOf nm)) := hide (by rw [hr]; rfl)
  rw [← hr]
  generalize foundC l nm = F at *
  clear hr
  obtain ⟨W, hW⟩ : ∃ W, W = w.alloc (.cells #[.string ⟨#[]⟩, .slice none 0 0, .bool false] 77) := ⟨_, rfl⟩
  have hbW : Below w.heap.size w W := by rw [hW]; exact alloc_b _
  have bk : Blk W w.heap.size 77 #[.string ⟨#[]⟩, .slice none 0 0, .bool false] := by rw [hW]; exact Blk.new _ _ _
  have hWl : w.heap.size < W.heap.size := bk.lt
  go_enter Tryz.func91, Tryz.ntmps91
  go_upto_region 1 with fail
  try rw [← hW]
  clear hW
  go_wp2
  go_loopw [6] (fun v wr => ∃ i : Nat, i ≤ n ∧ v = .int .i64 (i : Int) ∧ Hid (r = findC (l.drop i) nm) ∧ wr = W) (fun v _ => n - (RowKit.intOf v).toNat)
  case atStart => exact ⟨0, by omega, rfl, Hr, rfl⟩
  case round =>
    obtain ⟨i, hi, rfl, hf, rfl⟩ := hrel
    have hbs := hbW.size
    by_cases hlt : i < n
    · obtain ⟨ad, t, A', n', c', rfl, hbl, hx, hs, c1, c2, c3⟩ := TmIn.at_ (TmIn.below h hbW) hlt
      have hd := hf.out.trans (Hd.out i t hx)
      have he := eq_names t.name nm
      clear hx hf Hend Hr h Hd
      by_cases hxn : t.name = nm
      · rw [if_pos hxn] at hd
        rw [decide_eq_true hxn] at he
        have hF : Hid (F = t) := hide (by rw [Hf.out, hd]; rfl)
        have hS : Hid (r = some t) := hide hd
        have Hs := hide hs
        clear hxn hd Hf hs
        have k0 := (bk.cell 0).trans rfl
        have k1 := (bk.cell 1).trans rfl
        have k2 := (bk.cell 2).trans rfl
        have f0 := bk.frozen 0
        have f1 := bk.frozen 1
        have f2 := bk.frozen 2
        go_wp2
        have hblk := stored_row (u := .string t.name) (v := .slice A' n' c') (x := .bool t.none) bk rfl
        refine bodyPost_ret (results_row_tmp rfl _ _ w.heap.size 77 _ (0, 0) _ (.bool true) rfl rfl hblk Tryz.underlying77 rfl term_size) rfl ?_
        refine ⟨A', n', c', by rw [hF.out, hS.out]; rfl, ?_, three_b hbW (Nat.le_refl _) _ _ _⟩
        rw [hF.out]
        exact (Hs.out.below (three_at (Below.refl w.heap.size wr) (Nat.le_refl _) _ _ _)).more (by simp [World.setCell]; omega)
      · rw [if_neg hxn] at hd
        rw [decide_eq_false hxn] at he
        have Hd2 := hide hd
        clear hxn hd hs
        go_wp2
        go_roundw
        case rel => exact ⟨i + 1, by omega, by go_num, Hd2, by trivial⟩
        case measure => simp [RowKit.intOf]; omega
    · have hi2 : i = n := by omega
      have e : r = none := by rw [hf.out, hi2]; exact Hend.out
      subst e
      have hF : Hid (F = fullOf nm) := hide Hf.out
      clear hf Hr Hend Hd Hf h
      go_wp2_with (first
        | (go_at_call 128
           refine (HA.out _).mono ?_
           rintro e w1 ⟨rfl, h1, hb1⟩
           have bk1 := bk.below hb1 bk.lt
           have k0 := (bk1.cell 0).trans rfl
           have k1 := (bk1.cell 1).trans rfl
           have k2 := (bk1.cell 2).trans rfl
           have f0 := bk1.frozen 0
           have f1 := bk1.frozen 1
           have f2 := bk1.frozen 2
           have hbw := hbW.trans (hb1.mono hbW.size)))
      have hblk := stored_row (u := .string nm) (v := .slice (some ⟨wr.heap.size, 0, none⟩) 1 1) (x := .bool true) bk1 rfl
      refine bodyPost_ret (results_row_tmp rfl _ _ w.heap.size 77 _ (0, 0) _ (.bool false) rfl rfl hblk Tryz.underlying77 rfl term_size) rfl ?_
      refine ⟨some ⟨wr.heap.size, 0, none⟩, 1, 1, by rw [hF.out]; rfl, ?_, three_b hbw (Nat.le_refl _) _ _ _⟩
      rw [hF.out]
      have hne : ∀ k, (⟨wr.heap.size, 0, none⟩ : Addr).block ≠ (⟨w.heap.size, k, none⟩ : Addr).block := fun k => by show wr.heap.size ≠ w.heap.size; omega
      have h2 := spIn_far (spIn_far (spIn_far h1 (hne 0) (.string nm)) (hne 1) (.slice (some ⟨wr.heap.size, 0, none⟩) 1 1)) (hne 2) (.bool true)
      exact h2.more (by simp [World.setCell])
end Go.Proofs.YtdmejcfnolhplaaGreat.Clash
/-
  Contracts of the document's Make and Join of clashes. Condition: terms that may be, of at most 10,000 spans together (for Join: 5,000), at most 1,000 of them.
-/
namespace Go.Proofs.YtdmejcfnolhplaaGreat.Clash
open Go.Proofs.YtdmejcfnolhplaaGreat.Pick (triP)
open Go Go.RowKit Go.Lib Go.Proofs.YtdmejcfnolhplaaGreat.Span Go.Proofs.YtdmejcfnolhplaaGreat.Need Go.Proofs.YtdmejcfnolhplaaGreat.Grow Go.Proofs.YtdmejcfnolhplaaGreat.Term
open Go.Proofs.YtdmejcfnolhplaaGreat.Label (runes fitL)
set_option linter.unusedVariables false
theorem three_cells {w wx : World} {B : Nat} {ad : Addr} {k : Nat} {u1 u2 u3 : Value} (hb : Below B w wx) (had : ad.block < B)
    (c1 : w.cell? (ad.add k) = some u1) (c2 : w.cell? ⟨(ad.add k).block, (ad.add k).off + 1, none⟩ = some u2) (c3 : w.cell? ⟨(ad.add k).block, (ad.add k).off + 2, none⟩ = some u3) :
    wx.cell? (ad.add k) = some u1 ∧ wx.cell? ⟨(ad.add k).block, (ad.add k).off + 1, none⟩ = some u2 ∧ wx.cell? ⟨(ad.add k).block, (ad.add k).off + 2, none⟩ = some u3 :=
  ⟨(hb.cell (by rw [block_of_add]; exact had)).trans c1, (hb.cell (p := ⟨(ad.add k).block, (ad.add k).off + 1, none⟩) (by simp only [block_of_add]; exact had)).trans c2,
   (hb.cell (p := ⟨(ad.add k).block, (ad.add k).off + 2, none⟩) (by simp only [block_of_add]; exact had)).trans c3⟩
theorem own_one (w : World) (nm : ByteArray) (A : Option Addr) (n c : Nat) (z : Bool) (B : Nat) (hB : B ≤ w.heap.size) :
    (w.alloc (.cells #[.string nm, .slice A n c, .bool z] 77)).ownsRow B 77 3 (.slice (some ⟨w.heap.size, 0, none⟩) 1 1) 1 (tms [(nm, .slice A n c, z)]) :=
  ⟨rfl, .inr ⟨w.heap.size, 1, _, rfl, hB, heap_alloc_new w _, Nat.le_refl _, by decide, rfl, rfl⟩⟩
theorem left_step {P out : List Tm} {x : Tm} {i : Nat} {F : Option (List Tm)} (hF : (leftC (P.drop i)).map (fun q => out ++ q) = F) (hx : P[i]? = some x) :
    (emptyT x = true → F = none) ∧ (emptyT x = false → fullT x = true → (leftC (P.drop (i + 1))).map (fun q => out ++ q) = F) ∧ (emptyT x = false → fullT x = false → (leftC (P.drop (i + 1))).map (fun q => (out ++ [x]) ++ q) = F) := by
  rw [left_drop hx] at hF
  refine ⟨fun h => ?_, fun h h' => ?_, fun h h' => ?_⟩
  · rw [← hF, if_pos h]; rfl
  · rw [← hF, if_neg (by rw [h]; simp)]
    cases leftC (P.drop (i + 1)) <;> simp [h']
  · rw [← hF, if_neg (by rw [h]; simp)]
    cases leftC (P.drop (i + 1)) <;> simp [h']
theorem sum_drop (l : List Tm) (n : ByteArray) : sumC (dropC l n) ≤ sumC l := by
  induction l with
  | nil => simp [dropC, sumC]
  | cons x r ih =>
    unfold dropC at *
    rw [List.filter_cons, sumC_cons]
    split
    · rw [sumC_cons]; omega
    · omega
theorem find_isSome {l : List Tm} {n : ByteArray} {x : Tm} (h : findC l n = some x) : foundC l n = x := by unfold foundC; rw [h]; rfl
end Go.Proofs.YtdmejcfnolhplaaGreat.Clash
/-
  The contract of the document's Make of clashes once more, with the rows' types told. Condition: terms that may be, of at most 10,000 spans together, at most 1,000 of them.
-/
namespace Go.Proofs.YtdmejcfnolhplaaGreat.Fact
open Go.Proofs.YtdmejcfnolhplaaGreat.Pick (triP)
open Go Go.RowKit Go.Lib Go.Proofs.YtdmejcfnolhplaaGreat.Span Go.Proofs.YtdmejcfnolhplaaGreat.Need Go.Proofs.YtdmejcfnolhplaaGreat.Grow Go.Proofs.YtdmejcfnolhplaaGreat.Term Go.Proofs.YtdmejcfnolhplaaGreat.Clash
set_option linter.unusedVariables false
set_option maxHeartbeats 8000000 in
set_option maxRecDepth 100000 in
theorem refMakeR_any (l : List Tm) (A : Option Addr) (n c : Nat) (w : World) (h : TmR w w.heap.size A n l) (hok : ∀ t ∈ l, okT t = true) (hsum : sumC l ≤ 10000) (hn : n ≤ 1000) :
    Calls Tryz.prog 84 #[.slice A n c] w (MakesR w (makeC l)) := by
  unfold MakesR
  obtain ⟨i0, hi0, hz0, hz1, hz2⟩ := info_parts info_term
  have hlen := hide h.len
  have HP := hide (fun (i : Nat) (t : Tm) (hx : l[i]? = some t) => puts_snoc l hx)
  have HL := hide (fun i hi => puts_length l i hi)
  have HZ := hide (fun i (hi : i ≤ l.length) z (hz : z ∈ putsC (l.take i)) => Nat.le_trans (puts_size hok i hi z hz) (Nat.le_trans (sumC_take l i) hsum))
  have HT := hide (fun t (ht : t ∈ l) => Nat.le_trans (sumC_mem ht) hsum)
  obtain ⟨F, hF⟩ : ∃ F, F = makeC l := ⟨_, rfl⟩
  rw [← hF]
  have HF : Hid (leftC (putsC l) = F) := hide (by rw [hF, make_left])
  have HS : Hid (∀ x ∈ putsC l, x.set.length ≤ 1000000001) := hide (fun x hx => by
    have := HZ.out l.length (Nat.le_refl _) x (by rw [List.take_length]; exact hx)
    omega)
  clear hF hok hsum
  go_enter Tryz.func84, Tryz.ntmps84
  go_wp2
  go_loopw [4, 6] (fun u v wr => ∃ (i k : Nat) (Aa : Option Addr) (ca : Nat), i ≤ n ∧ u = .slice Aa k ca ∧ v = .int .i64 (i : Int) ∧ TmR wr wr.heap.size Aa k (putsC (l.take i)) ∧ Below w.heap.size w wr) (fun _ v _ => n - (RowKit.intOf v).toNat)
  case atStart => exact ⟨0, 0, none, 0, by omega, rfl, rfl, TmR.nil _ _ _, Below.refl _ _⟩
  case round =>
    obtain ⟨i, k, Aa, ca, hi, rfl, rfl, hP, hb⟩ := hrel
    have hbs := hb.size
    have hk : k ≤ 1000 := by have := hP.len; have := HL.out i (by have := hlen.out; omega); omega
    by_cases hlt : i < n
    · obtain ⟨ad, t, A', n', c', rfl, hbl, hx, hs, c1, c2, c3, hty⟩ := TmR.at_ (TmR.below h hb (Nat.le_refl _) hb.size) hlt
      have hz := HT.out t (List.mem_of_getElem? hx)
      have hsl := hs.1
      have HQ := hide (refPutR_any (putsC (l.take i)) t.name t.set t.none Aa A' k ca n' c' wr hP hty (fun q hq => HZ.out i (by have := hlen.out; omega) q hq) (by omega) (by omega))
      have HE := hide (HP.out i t hx)
      clear hx hs hty hz hsl hP h HP HL HZ HT HF
      go_wp2_with (first
        | (go_at_call 122
           refine HQ.out.mono ?_
           rintro e w1 ⟨A2, n2, c2', rfl, h2, hb2⟩
           have hbw := hb.trans (hb2.mono hbs)))
      go_roundw
      case rel => exact ⟨i + 1, n2, A2, c2', by omega, rfl, by go_num, by rw [HE.out]; exact h2, hbw⟩
      case measure => simp [RowKit.intOf]; omega
    · have hin : l.take i = l := by rw [List.take_of_length_le]; have := hlen.out; omega
      rw [hin] at hP
      generalize putsC l = P at *
      have Hlen := hide hP.len
      clear h HP HL HZ HT hin
      obtain ⟨V, hV⟩ : ∃ V, V = wr := ⟨_, rfl⟩
      subst hV
      go_wp2
      go_loopw [5, 7] (fun u v wz => ∃ (j m : Nat) (rs : List Rt) (out : List Tm), j ≤ k ∧ m ≤ j ∧ v = .int .i64 (j : Int) ∧ TmsR wz V.heap.size u m rs out ∧ Hid ((leftC (P.drop j)).map (fun q => out ++ q) = F) ∧ Below V.heap.size V wz) (fun _ v _ => k - (RowKit.intOf v).toNat)
      case atStart => exact ⟨0, 0, [], [], by omega, by omega, rfl, TmsR.nil_ _ _, hide (by rw [List.drop_zero, HF.out]; cases F <;> simp), Below.refl _ _⟩
      case round =>
        obtain ⟨j, m, rs, out, hj, hm, rfl, hN, hL, hbz⟩ := hrel
        obtain ⟨Ax, cx, rfl, hcx, hx0⟩ := hN.told
        have hbzs := hbz.size
        by_cases hjk : j < k
        · obtain ⟨ad, x, A', n', c', rfl, hbl, hx, hs0, c1, c2, c3, hty⟩ := TmR.at_ hP hjk
          have hsl := hs0.1
          have hs : SpIn V V.heap.size A' n' x.set := hs0
          have hst := left_step hL.out hx
          have S1 := hide hst.1
          have S2 := hide hst.2.1
          have S3 := hide hst.2.2
          have hsx0 : n' ≤ 1000000001 := by
            rw [← hsl]
            exact HS.out x (List.mem_of_getElem? hx)
          have HX := hide (fun (wx : World) (hbx : Below V.heap.size V wx) => three_cells (k := j * 3) hbx hbl c1 c2 c3)
          have Hx : Hid (InS V 0 A' n' x.set) := hide hty
          have HEm : Hid (∀ wx, Below V.heap.size V wx → Calls Tryz.prog 123 #[.agg #[.string x.name, .slice A' n' c', .bool x.none]] wx fun e w' => e = .returned (.bool (emptyT x)) ∧ Below wx.heap.size wx w') := hide (fun wx hbx => by
            have hsx : SpOn wx A' n' x.set := (hs.below hbx).more hbx.size
            have := refEmptyT_any x.name x.set x.none A' n' c' wx hsx
            unfold Tells at this
            exact this)
          have HFu : Hid (∀ wx, Below V.heap.size V wx → Calls Tryz.prog 124 #[.agg #[.string x.name, .slice A' n' c', .bool x.none]] wx fun e w' => e = .returned (.bool (fullT x)) ∧ Below wx.heap.size wx w') := hide (fun wx hbx => by
            have hsx : SpOn wx A' n' x.set := (hs.below hbx).more hbx.size
            have := refFullT_any x.name x.set x.none A' n' c' wx hsx hsx0
            unfold Tells at this
            exact this)
          clear hst hx hs0 hs hty hsl hP hL HF c1 c2 c3
          generalize emptyT x = em at *
          generalize fullT x = fu at *
          obtain ⟨c1, c2, c3⟩ := HX.out _ hbz
          cases em with
          | true =>
            have e : Hid (F = none) := hide (S1.out rfl)
            clear S1 S2 S3
            go_wp2_with (first
              | (go_at_call 123
                 refine (HEm.out _ hbz).mono ?_
                 rintro e w1 ⟨rfl, hb1⟩))
            go_ret2
            exact ⟨none, 0, 0, by rw [e.out]; rfl, by rw [e.out]; exact TmR.nil _ _ _, hb.trans ((hbz.trans (hb1.mono hbzs)).mono hbs)⟩
          | false =>
          cases fu with
          | true =>
            have e := hide (S2.out rfl rfl)
            clear S1 S2 S3
            go_wp2_with (first
              | (go_at_call 124
                 refine (HFu.out _ hb1).mono ?_
                 rintro e w2 ⟨rfl, hb2x⟩
                 have N2 := N1.below hb2x
                 have hb2 := hb1.trans (hb2x.mono hb1.size))
              | (go_at_call 123
                 refine (HEm.out _ hbz).mono ?_
                 rintro e w1 ⟨rfl, hb1x⟩
                 have N1 := hN.below hb1x
                 have hb1 := hbz.trans (hb1x.mono hbzs)
                 obtain ⟨d1, d2, d3⟩ := HX.out _ hb1))
            go_roundw
            case rel => exact ⟨j + 1, m, _, _, by omega, by omega, by go_num, N2, e, hb2⟩
            case measure => simp [RowKit.intOf]; omega
          | false =>
            have e := hide (S3.out rfl rfl)
            clear S1 S2 S3
            obtain ⟨xn, xs, xz⟩ := x
            simp only [] at c1 c2 c3 HX HEm HFu Hx
            go_upto_region 12 with (first
              | (go_at_call 124
                 refine (HFu.out _ hb1).mono ?_
                 rintro e w2 ⟨rfl, hb2x⟩
                 have N2 := N1.below hb2x
                 have hb2 := hb1.trans (hb2x.mono hb1.size)
                 have hs2 := hb2.size
                 obtain ⟨g1, g2, g3⟩ := HX.out _ hb2)
              | (go_at_call 123
                 refine (HEm.out _ hbz).mono ?_
                 rintro e w1 ⟨rfl, hb1x⟩
                 have N1 := hN.below hb1x
                 have hb1 := hbz.trans (hb1x.mono hbzs)
                 obtain ⟨d1, d2, d3⟩ := HX.out _ hb1))
            go_wp2_with (first
              | (at_builtin
                 refine wpList_append_any _ rfl (.tmp 37) (.tmp 42) _ rfl V.heap.size 77 i0 _ 3 48 Tryz.underlying41 hi0 hz0 hz1 hz2 rfl (by omega) _ m (tms rs) rfl
                   (own_below N2.1 (alloc_b _)) _ _ 1 _ _ rfl (reads_term _ xn A' n' c' xz _ _ (by simp)) (one_term _ _ _ _ _) (by unfold maxLen; omega) (by omega) (by simp; omega) ?_
                 intro v3 w3 hown3 hg3 hat3
                 have hA3 := (alloc_b (w := w2) (.cells #[.string xn, .slice A' n' c', .bool xz] 77))
                 have N3 := (N2.below hA3).cat (AllT.one (z := xz) (InS.below (Hx.out.below hb2) hA3)) hown3 hg3
                 have h3 : Below V.heap.size V w3 := (hb2.trans (hA3.mono hs2)).grown hg3 (by simp; omega) (fun k hk => (N2.1.lt k hk).1)))
            go_roundw
            case rel => exact ⟨j + 1, m + 1, _, _, by omega, by omega, by go_num, N3, e, h3⟩
            case measure => simp [RowKit.intOf]; omega
        · have e : Hid (F = some out) := hide (by rw [← hL.out, List.drop_of_length_le (by have := Hlen.out; omega)]; simp [leftC])
          clear hL HF hP
          go_wp2
          go_ret2
          exact ⟨Ax, m, cx, by rw [e.out]; rfl, by rw [e.out]; exact hx0, hb.trans (hbz.mono hbs)⟩
end Go.Proofs.YtdmejcfnolhplaaGreat.Fact
/-
  The contract of the document's Join of clashes once more, with the rows' types told. Condition: terms that may be, of at most 5,000 spans together, at most 900 of them.
-/
namespace Go.Proofs.YtdmejcfnolhplaaGreat.Fact
open Go.Proofs.YtdmejcfnolhplaaGreat.Pick (triP)
open Go Go.RowKit Go.Lib Go.Proofs.YtdmejcfnolhplaaGreat.Span Go.Proofs.YtdmejcfnolhplaaGreat.Need Go.Proofs.YtdmejcfnolhplaaGreat.Grow Go.Proofs.YtdmejcfnolhplaaGreat.Term Go.Proofs.YtdmejcfnolhplaaGreat.Clash
set_option linter.unusedVariables false
set_option maxHeartbeats 8000000 in
set_option maxRecDepth 100000 in
theorem refJoinR_any (a b : List Tm) (nm : ByteArray) (A A' : Option Addr) (n c n' c' : Nat) (w : World) (h : TmR w w.heap.size A n a) (h' : TmR w w.heap.size A' n' b)
    (ha : ∀ t ∈ a, okT t = true) (hb : ∀ t ∈ b, okT t = true) (hsum : sumC a + sumC b ≤ 5000) (hn : n + n' ≤ 900) :
    Calls Tryz.prog 60 #[.slice A n c, .slice A' n' c', .string nm] w (MakesR w (joinC a b nm)) := by
  have HA := hide (fun (wx : World) (hx : Below w.heap.size w wx) => refFindC_any a nm A n c wx (h.on hx).in_ (by omega))
  have HB := hide (fun (wx : World) (hx : Below w.heap.size w wx) => refFindC_any b nm A' n' c' wx (h'.on hx).in_ (by omega))
  unfold FindsT at HA HB
  unfold MakesR
  cases fa : findC a nm with
  | none =>
    have e : joinC a b nm = none := by unfold joinC; rw [fa]
    rw [e]
    rw [fa] at HA
    generalize foundC a nm = X at *
    generalize foundC b nm = Y at *
    generalize (findC b nm).isSome = ok at *
    clear e fa h h' ha hb hsum
    go_enter Tryz.func60, Tryz.ntmps60
    go_wp2_with (first
      | (go_at_call 91
         refine (HB.out _ hb1).mono ?_
         rintro e w2 ⟨A2, n2, c2, rfl, h2, hb2x⟩
         have hb2 := hb1.trans (hb2x.mono hb1.size))
      | (go_at_call 91
         refine (HA.out _ (Below.refl _ _)).mono ?_
         rintro e w1 ⟨A1, n1, c1, rfl, h1, hb1x⟩
         have hb1 := hb1x.alloc hb1x.size (.cells #[.string X.name, .slice A1 n1 c1, .bool X.none] 77)))
    go_ret2
    exact ⟨none, 0, 0, rfl, TmR.nil _ _ _, hb2.alloc hb2.size _⟩
  | some x =>
  cases fb : findC b nm with
  | none =>
    have e : joinC a b nm = none := by unfold joinC; rw [fa, fb]
    rw [e]
    rw [fa] at HA
    rw [fb] at HB
    generalize foundC a nm = X at *
    generalize foundC b nm = Y at *
    clear e fa fb h h' ha hb hsum
    go_enter Tryz.func60, Tryz.ntmps60
    go_wp2_with (first
      | (go_at_call 91
         refine (HB.out _ hb1).mono ?_
         rintro e w2 ⟨A2, n2, c2, rfl, h2, hb2x⟩
         have hb2 := hb1.trans (hb2x.mono hb1.size))
      | (go_at_call 91
         refine (HA.out _ (Below.refl _ _)).mono ?_
         rintro e w1 ⟨A1, n1, c1, rfl, h1, hb1x⟩
         have hb1 := hb1x.alloc hb1x.size (.cells #[.string X.name, .slice A1 n1 c1, .bool X.none] 77)))
    go_ret2
    exact ⟨none, 0, 0, rfl, TmR.nil _ _ _, hb2.alloc hb2.size _⟩
  | some y =>
    obtain ⟨i0, hi0, hz0, hz1, hz2⟩ := info_parts info_term
    have e : joinC a b nm = makeC (joinT x y :: (dropC a nm ++ dropC b nm)) := by unfold joinC; rw [fa, fb]; rfl
    rw [e]
    have hxa := find_name fa
    have hyb := find_name fb
    have ox := ha x hxa.1
    have oy := hb y hyb.1
    have lx := sumC_mem hxa.1
    have ly := sumC_mem hyb.1
    have hoj := ok_join ox (hxa.2.trans hyb.2.symm)
    have hjl := joinT_len (okT_set ox) (okT_set oy)
    have la := h.len
    have lb := h'.len
    have lenA := hide la
    have lenB := hide lb
    have sa := sum_drop a nm
    have sb := sum_drop b nm
    have hok : ∀ t ∈ joinT x y :: (dropC a nm ++ dropC b nm), okT t = true := by
      intro t ht
      rcases List.mem_cons.1 ht with rfl | ht
      · exact hoj
      · rcases List.mem_append.1 ht with ht | ht
        · exact ha t (List.mem_filter.1 ht).1
        · exact hb t (List.mem_filter.1 ht).1
    have HMk := hide (fun (wx : World) (Aq : Option Addr) (nq cq : Nat) (hq : TmR wx wx.heap.size Aq nq ((joinT x y :: dropC a nm) ++ dropC b nm)) => refMakeR_any (joinT x y :: (dropC a nm ++ dropC b nm)) Aq nq cq wx hq hok (by rw [sumC_cons, sumC_append]; omega) (by
      have h1 := hq.len
      have h2 : (dropC a nm).length ≤ a.length := List.length_filter_le _ _
      have h3 : (dropC b nm).length ≤ b.length := List.length_filter_le _ _
      simp only [List.length_append, List.length_cons] at h1
      omega))
    unfold MakesR at HMk
    have HJ := hide (fun (wx : World) (A1 A2 : Option Addr) (n1 c1 n2 c2 : Nat) (h1 : SpOn wx A1 n1 x.set) (h2 : SpOn wx A2 n2 y.set) => refJoinT_any x.name y.name x.set y.set x.none y.none A1 A2 n1 c1 n2 c2 wx h1 h2 (by have := h1.len; omega) (by have := h2.len; omega))
    unfold MakesT at HJ
    rw [fa, find_isSome fa] at HA
    rw [fb, find_isSome fb] at HB
    generalize makeC (joinT x y :: (dropC a nm ++ dropC b nm)) = R at *
    clear e hok sa sb la lb hjl hoj lx ly ox oy hxa hyb fa fb ha hb hsum
    go_enter Tryz.func60, Tryz.ntmps60
    go_upto_region 5 with (first
      | (go_at_call 91
         refine (HB.out _ hb1).mono ?_
         rintro e w2 ⟨A2, n2, c2, rfl, h2, hb2x⟩
         have hb2 := hb1.trans (hb2x.mono hb1.size)
         have h1w := h1'.on hb2x
         have bX2 := bX.below hb2x bX.lt)
      | (go_at_call 91
         refine (HA.out _ (Below.refl _ _)).mono ?_
         rintro e w1 ⟨A1, n1, c1, rfl, h1, hb1x⟩
         have hb1 := hb1x.alloc hb1x.size (.cells #[.string x.name, .slice A1 n1 c1, .bool x.none] 77)
         have h1' := h1.on (alloc_b (.cells #[.string x.name, .slice A1 n1 c1, .bool x.none] 77))
         have bX := Blk.new w1 77 #[.string x.name, .slice A1 n1 c1, .bool x.none]))
    obtain ⟨gx, hgx⟩ : ∃ g, g = w1.heap.size := ⟨_, rfl⟩
    obtain ⟨gy, hgy⟩ : ∃ g, g = w2.heap.size := ⟨_, rfl⟩
    obtain ⟨W2, hW2⟩ : ∃ W2, W2 = w2.alloc (.cells #[.string y.name, .slice A2 n2 c2, .bool y.none] 77) := ⟨_, rfl⟩
    have hbW2 : Below w.heap.size w W2 := by rw [hW2]; exact hb2.alloc hb2.size _
    have bX3 : Blk W2 gx 77 #[.string x.name, .slice A1 n1 c1, .bool x.none] := by rw [hW2, hgx]; exact bX2.alloc _
    have bY3 : Blk W2 gy 77 #[.string y.name, .slice A2 n2 c2, .bool y.none] := by rw [hW2, hgy]; exact Blk.new _ _ _
    have hX3 : SpOn W2 A1 n1 x.set := by rw [hW2]; exact h1w.on (alloc_b _)
    have hY3 : SpOn W2 A2 n2 y.set := by rw [hW2]; exact h2.on (alloc_b _)
    have hA2 : TmR W2 W2.heap.size A n a := h.on hbW2
    have hB2 : TmR W2 W2.heap.size A' n' b := h'.on hbW2
    try rw [← hgx]
    try rw [← hgy]
    try rw [← hW2]
    have HJ2 := hide (HJ.out _ _ _ _ c1 _ c2 hX3 hY3)
    clear hW2 hgx hgy bX bX2 h1 h1' h1w h2 hb1 hb2 hb1x hb2x HA HB HJ hX3 hY3 h h'
    have kx0 := bX3.cell 0
    have kx1 := bX3.cell 1
    have kx2 := bX3.cell 2
    have ky0 := bY3.cell 0
    have ky1 := bY3.cell 1
    have ky2 := bY3.cell 2
    go_upto_region 6 with (first
      | (go_at_call 92
         refine HJ2.out.mono ?_
         rintro e w3 ⟨A3, n3, c3, rfl, hN3, hb3⟩))
    have hA3 := alloc_b (w := w3) (.cells #[.string (joinT x y).name, .slice A3 n3 c3, .bool (joinT x y).none] 77)
    have hN0 : TmsR (w3.alloc (.cells #[.string (joinT x y).name, .slice A3 n3 c3, .bool (joinT x y).none] 77)) W2.heap.size (.slice (some ⟨w3.heap.size, 0, none⟩) 1 1) 1 [((joinT x y).name, .slice A3 n3 c3, (joinT x y).none)] ([joinT x y] ++ dropC (a.take 0) nm) := by
      rw [show dropC (a.take 0) nm = [] from rfl, List.append_nil]
      exact ⟨own_one w3 _ _ _ _ _ _ hb3.size, AllT.one (InS.below (InS.of_new hN3) hA3)⟩
    have hb0 : Below W2.heap.size W2 (w3.alloc (.cells #[.string (joinT x y).name, .slice A3 n3 c3, .bool (joinT x y).none] 77)) := hb3.trans (hA3.mono hb3.size)
    clear HJ2 kx0 kx1 kx2 ky0 ky1 ky2 bX3 bY3 hN3 hA3
    go_wp2
    go_loopw [12, 13] (fun u v wr => ∃ (i m : Nat) (rs : List Rt), i ≤ n ∧ m ≤ 0 + i + 1 ∧ v = .int .i64 (i : Int) ∧ TmsR wr W2.heap.size u m rs ([joinT x y] ++ dropC (a.take i) nm) ∧ Below W2.heap.size W2 wr) (fun _ v _ => n - (RowKit.intOf v).toNat)
    case atStart => exact ⟨0, 1, _, by omega, by omega, rfl, hN0, hb0⟩
    case round =>
      obtain ⟨i, m, rs, hi, hm, rfl, hN, hbz⟩ := hrel
      obtain ⟨Ax, cx, rfl, hcx, hx0⟩ := hN.told
      have hbzs := hbz.size
      by_cases hlt : i < n
      · obtain ⟨ad, t, A5, n5, c5, e5, hbl, hx, hs, c1, c2, c3, hty⟩ := TmR.at_ (TmR.below hA2 hbz (Nat.le_refl _) hbz.size) hlt
        have hlt2 : ad.block < W2.heap.size := hbl
        subst e5
        have hd := dropC_take (n := nm) hx
        have he := eq_names t.name nm
        have Hs : Hid (InS wr 0 A5 n5 t.set) := hide hty
        by_cases hxn : t.name = nm
        · rw [if_pos hxn] at hd
          rw [decide_eq_true hxn] at he
          have hne : (t.name.toList != nm.toList) = false := by rw [bne, he]; rfl
          have Hd := hide hd
          clear hd hxn hx hs hty HMk hB2
          go_wp2
          go_roundw
          case rel => exact ⟨i + 1, m, _, by omega, by omega, by go_num, by rw [Hd.out]; exact hN, hbz⟩
          case measure => simp [RowKit.intOf]; omega
        · rw [if_neg hxn] at hd
          rw [decide_eq_false hxn] at he
          have hne : (t.name.toList != nm.toList) = true := by rw [bne, he]; rfl
          have Hd := hide (show [joinT x y] ++ dropC (a.take (i + 1)) nm = ([joinT x y] ++ dropC (a.take i) nm) ++ [t] by rw [hd, List.append_assoc])
          clear hd hxn hx hs hty HMk hB2
          obtain ⟨xn, xs, xz⟩ := t
          simp only [] at c1 c2 c3 he hne Hs
          go_wp2_with (first
            | (at_builtin
               refine wpList_append_any _ rfl (.tmp 50) (.tmp 55) _ rfl W2.heap.size 77 i0 _ 3 48 Tryz.underlying41 hi0 hz0 hz1 hz2 rfl (by omega) _ m (tms rs) rfl
                 (own_below hN.1 (alloc_b _)) _ _ 1 _ _ rfl (reads_term _ xn A5 n5 c5 xz _ _ (by simp)) (one_term _ _ _ _ _) (by unfold maxLen; omega) (by omega) (by simp; omega) ?_
               intro v9 w9 hown9 hg9 hat9
               have hA9 := (alloc_b (w := wr) (.cells #[.string xn, .slice A5 n5 c5, .bool xz] 77))
               have N9 := (hN.below hA9).cat (AllT.one (z := xz) (InS.below (Hs.out) hA9)) hown9 hg9
               have h9 : Below W2.heap.size W2 w9 := (hbz.trans (hA9.mono hbzs)).grown hg9 (by simp; omega) (fun k hk => (hN.1.lt k hk).1)))
          go_roundw
          case rel => exact ⟨i + 1, m + 1, _, by omega, by omega, by go_num, by rw [Hd.out]; exact N9, h9⟩
          case measure => simp [RowKit.intOf]; omega
      · have hin : a.take i = a := by rw [List.take_of_length_le]; have := lenA.out; omega
        rw [hin] at hN hx0
        have hmn : m ≤ 0 + n + 1 := by omega
        clear hin hm hi
        obtain ⟨m1, hm1⟩ : ∃ m1, m1 = m := ⟨_, rfl⟩
        rw [← hm1] at hN hmn hcx
        have hN1 : TmsR wr W2.heap.size (.slice Ax m1 cx) m1 rs (joinT x y :: dropC a nm) := hN
        obtain ⟨rs1, hrs1⟩ : ∃ r, r = rs := ⟨_, rfl⟩
        rw [← hrs1] at hN1
        have hbz1 := hbz
        rw [← hm1]
        clear hm1 hrs1 hN hx0 hbz hA2
        go_wp2
        go_loopw [12, 14] (fun u v wr => ∃ (i m : Nat) (rs : List Rt), i ≤ n' ∧ m ≤ n + i + 1 ∧ v = .int .i64 (i : Int) ∧ TmsR wr W2.heap.size u m rs ((joinT x y :: dropC a nm) ++ dropC (b.take i) nm) ∧ Below W2.heap.size W2 wr) (fun _ v _ => n' - (RowKit.intOf v).toNat)
        case atStart => exact ⟨0, m1, rs1, by omega, by omega, rfl, by rw [show dropC (b.take 0) nm = [] from rfl, List.append_nil]; exact hN1, hbz1⟩
        case round =>
          obtain ⟨i, m, rs, hi, hm, rfl, hN, hbz⟩ := hrel
          obtain ⟨Ax, cx, rfl, hcx, hx0⟩ := hN.told
          have hbzs := hbz.size
          by_cases hlt : i < n'
          · obtain ⟨ad, t, A5, n5, c5, e5, hbl, hx, hs, c1, c2, c3, hty⟩ := TmR.at_ (TmR.below hB2 hbz (Nat.le_refl _) hbz.size) hlt
            have hlt2 : ad.block < W2.heap.size := hbl
            subst e5
            have hd := dropC_take (n := nm) hx
            have he := eq_names t.name nm
            have Hs : Hid (InS wr 0 A5 n5 t.set) := hide hty
            by_cases hxn : t.name = nm
            · rw [if_pos hxn] at hd
              rw [decide_eq_true hxn] at he
              have hne : (t.name.toList != nm.toList) = false := by rw [bne, he]; rfl
              have Hd := hide hd
              clear hd hxn hx hs hty HMk
              go_wp2
              go_roundw
              case rel => exact ⟨i + 1, m, _, by omega, by omega, by go_num, by rw [Hd.out]; exact hN, hbz⟩
              case measure => simp [RowKit.intOf]; omega
            · rw [if_neg hxn] at hd
              rw [decide_eq_false hxn] at he
              have hne : (t.name.toList != nm.toList) = true := by rw [bne, he]; rfl
              have Hd := hide (show (joinT x y :: dropC a nm) ++ dropC (b.take (i + 1)) nm = ((joinT x y :: dropC a nm) ++ dropC (b.take i) nm) ++ [t] by rw [hd, List.append_assoc])
              clear hd hxn hx hs hty HMk
              obtain ⟨xn, xs, xz⟩ := t
              simp only [] at c1 c2 c3 he hne Hs
              go_wp2_with (first
                | (at_builtin
                   refine wpList_append_any _ rfl (.tmp 70) (.tmp 75) _ rfl W2.heap.size 77 i0 _ 3 48 Tryz.underlying41 hi0 hz0 hz1 hz2 rfl (by omega) _ m (tms rs) rfl
                     (own_below hN.1 (alloc_b _)) _ _ 1 _ _ rfl (reads_term _ xn A5 n5 c5 xz _ _ (by simp)) (one_term _ _ _ _ _) (by unfold maxLen; omega) (by omega) (by simp; omega) ?_
                   intro v9 w9 hown9 hg9 hat9
                   have hA9 := (alloc_b (w := wr) (.cells #[.string xn, .slice A5 n5 c5, .bool xz] 77))
                   have N9 := (hN.below hA9).cat (AllT.one (z := xz) (InS.below (Hs.out) hA9)) hown9 hg9
                   have h9 : Below W2.heap.size W2 w9 := (hbz.trans (hA9.mono hbzs)).grown hg9 (by simp; omega) (fun k hk => (hN.1.lt k hk).1)))
              go_roundw
              case rel => exact ⟨i + 1, m + 1, _, by omega, by omega, by go_num, by rw [Hd.out]; exact N9, h9⟩
              case measure => simp [RowKit.intOf]; omega
          · have hin : b.take i = b := by rw [List.take_of_length_le]; have := lenB.out; omega
            rw [hin] at hN hx0
            have hmn : m ≤ n + n' + 1 := by omega
            clear hin hm hi
            have hL := hx0
            clear hx0
            go_wp2_with (first
              | (go_at_call 84
                 refine (HMk.out _ _ _ _ hL).mono ?_
                 rintro e w9 ⟨A9, n9, c9, rfl, h9, hb9⟩))
            go_ret2
            exact ⟨A9, n9, c9, rfl, h9, (hbW2.trans (hbz.mono hbW2.size)).trans (hb9.mono (Nat.le_trans hbW2.size hbzs))⟩
end Go.Proofs.YtdmejcfnolhplaaGreat.Fact
/-
  What the program's functions of clashes have to tell, one sentence each, as premises; the statements' Large. Condition: none of its own.
-/
namespace Go.Proofs.YtdmejcfnolhplaaGreat.Clash
open Go.Proofs.YtdmejcfnolhplaaGreat.Pick (Pk PkOn getP)
open Go Go.RowKit Go.Lib Go.Proofs.YtdmejcfnolhplaaGreat.Span Go.Proofs.YtdmejcfnolhplaaGreat.Need Go.Proofs.YtdmejcfnolhplaaGreat.Grow Go.Proofs.YtdmejcfnolhplaaGreat.Term
open Go.Proofs.YtdmejcfnolhplaaGreat.Label (runes fitL)
set_option linter.unusedVariables false
def FineC (l : List Tm) : Prop := l.length ≤ 1000 ∧ sumC l ≤ 10000 ∧ ∀ t ∈ l, t.name.size ≤ 1000000000
def SpecFindC : Prop := ∀ (l : List Tm) (nm : ByteArray) (A : Option Addr) (n c : Nat) (w : World), TmOn w A n l → FineC l → okC l = true → nm.size ≤ 1000000000 → Calls Tryz.prog 80 #[.slice A n c, .string nm] w (FindsT w (foundC l nm) (findC l nm).isSome)
end Go.Proofs.YtdmejcfnolhplaaGreat.Clash
