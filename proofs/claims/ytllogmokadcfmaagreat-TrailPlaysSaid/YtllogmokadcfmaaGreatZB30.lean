/-
  Some texts of this claim, one behind the other: ClashRefCheck. What each proves, and its condition, stands at its head.
-/
import Derived.Test.YtllogmokadcfmaaGreatZB23
import Derived.Test.YtllogmokadcfmaaGreatZB29
import Derived.Test.YtllogmokadcfmaaGreatZB16
import Derived.Laws.Cover1
/-
  Contracts of the document's Check, Same and Find of clashes. Condition: the slices read as terms, of names of at most 1,000,000,000 bytes and sets of at most 1,000,000,001 spans.
-/
namespace Go.Proofs.YtllogmokadcfmaaGreat.Clash
open Go.Proofs.YtllogmokadcfmaaGreat.Pick (triP empty_lt fit_some)
open Go Go.RowKit Go.Lib Go.Proofs.YtllogmokadcfmaaGreat.Span Go.Proofs.YtllogmokadcfmaaGreat.Need Go.Proofs.YtllogmokadcfmaaGreat.Grow Go.Proofs.YtllogmokadcfmaaGreat.Term
open Go.Proofs.YtllogmokadcfmaaGreat.Label (runes fitL)
set_option linter.unusedVariables false
theorem cell_in {w : World} {p : Addr} {v : Value} (h : w.cell? p = some v) (hp : p.block < w.heap.size) (d : Nat) (os : Array Obj) : (Sort.grow (redrawn w d) os).cell? p = some v :=
  ((below_regrown w d os).cell hp).trans h
def FineT (l : List Tm) : Prop := ∀ t ∈ l, t.name.size ≤ 1000000000 ∧ t.set.length ≤ 1000000001
set_option maxHeartbeats 8000000 in
set_option maxRecDepth 100000 in
theorem refCheckC_any (l : List Tm) (A : Option Addr) (n c : Nat) (w : World) (h : TmOn w A n l) (hl : FineT l) (hn : n ≤ 1000000) :
    Calls Tryz.prog 6 #[.slice A n c] w fun e w' => e = .returned (.bool (okC l)) ∧ Below w.heap.size w w' := by
  have hlen := h.len
  have Hd := hide (fun a i q => @okCQ_drop l a i q)
  obtain ⟨F, hF⟩ : ∃ F, F = okCQ ByteArray.empty l := ⟨_, rfl⟩
  have Hl : Hid (okC l = F) := hide hF.symm
  have HF := hide hF
  have Hlen := hide hlen
  clear hF hlen
  generalize okC l = L at *
  go_enter Tryz.func6, Tryz.ntmps6
  go_wp2
  go_loopw [3] (fun v wr => ∃ (i : Nat) (p : ByteArray), i ≤ n ∧ v = .int .i64 (i : Int) ∧ Hid (i = 0 → p = ByteArray.empty) ∧ Hid (∀ j, i = j + 1 → ∃ q, l[j]? = some q ∧ q.name = p) ∧ Hid (F = okCQ p (l.drop i)) ∧ Below w.heap.size w wr) (fun v _ => n - (RowKit.intOf v).toNat)
  case atStart => exact ⟨0, ByteArray.empty, by omega, rfl, hide (fun _ => rfl), hide (fun j hj => by omega), HF, Below.refl _ _⟩
  case round =>
    obtain ⟨i, p, hi, rfl, hp0, hp1, hf, hb⟩ := hrel
    by_cases hlt : i < n
    · have hR := TmIn.below h hb
      obtain ⟨ad, t, A', n', c', rfl, hbl, hx, hs, c1, c2, c3⟩ := TmIn.at_ hR hlt
      obtain ⟨hq1, hq2⟩ := hl t (List.mem_of_getElem? hx)
      have hsl := hs.1
      have hd := hf.out.trans (Hd.out p i t hx)
      have hbs := hb.size
      have q1 := cell_in c1 (by rw [block_of_add]; omega)
      have q2 := cell_in c2 (by simp only [block_of_add]; omega)
      have q3 := cell_in c3 (by simp only [block_of_add]; omega)
      have Hnx := hide (fun j (hj : i + 1 = j + 1) => show ∃ q' : Tm, l[j]? = some q' ∧ q'.name = t.name from ⟨t, by rw [← Nat.succ.inj hj]; exact hx, rfl⟩)
      have hi1 : (0 : Int) ≤ (i : Int) := by omega
      have hi2 : (i : Int) < (n : Int) := by omega
      have HC : Hid (∀ wx, Below wr.heap.size wr wx → Calls Tryz.prog 25 #[.agg #[.string t.name, .slice A' n' c', .bool t.none]] wx fun e w' => e = .returned (.bool (okT t)) ∧ Below wx.heap.size wx w') := hide (fun wx hbx => by
        have hsx : SpOn wx A' n' t.set := (hs.below (hbx.mono hbs)).more (Nat.le_trans hbs hbx.size)
        have := refCheckT_any t.name t.set t.none A' n' c' wx hsx hq1 (by omega)
        unfold Tells at this
        exact this)
      have HF : Hid (∀ wx, Below wr.heap.size wr wx → Calls Tryz.prog 17 #[.agg #[.string t.name, .slice A' n' c', .bool t.none]] wx fun e w' => e = .returned (.bool (fullT t)) ∧ Below wx.heap.size wx w') := hide (fun wx hbx => by
        have hsx : SpOn wx A' n' t.set := (hs.below (hbx.mono hbs)).more (Nat.le_trans hbs hbx.size)
        have := refFullT_any t.name t.set t.none A' n' c' wx hsx (by omega)
        unfold Tells at this
        exact this)
      have HE : Hid (∀ wx, Below wr.heap.size wr wx → Calls Tryz.prog 26 #[.agg #[.string t.name, .slice A' n' c', .bool t.none]] wx fun e w' => e = .returned (.bool (emptyT t)) ∧ Below wx.heap.size wx w') := hide (fun wx hbx => by
        have hsx : SpOn wx A' n' t.set := (hs.below (hbx.mono hbs)).more (Nat.le_trans hbs hbx.size)
        have := refEmptyT_any t.name t.set t.none A' n' c' wx hsx
        unfold Tells at this
        exact this)
      unfold inC at hd
      have Hd2 := hide hd
      have Hemp := hide (fun (g : okT t = true) => empty_lt (fit_some (okT_fit g)))
      have htri := triP t.name p
      clear hq1 hq2 hsl hd c1 c2 c3 hs
      generalize okT t = y at *
      generalize fullT t = f at *
      generalize emptyT t = m at *
      obtain ⟨nm, s, z⟩ := t
      simp only [] at q1 q2 q3 HC HF HE Hd2 Hnx htri Hemp
      cases y with
      | false =>
        have e : Hid (F = false) := hide (by rw [Hd2.out]; simp)
        clear Hd2 htri Hemp hp1 hR Hnx
        go_upto_region 4 with fail
        refine wp_region_grow [(14, isC (.bool false)), (21, isC (.bool f)), (28, isC (.bool m))] [14, 21, 28]
          (by kernel_rfl) (by kernel_rfl) rfl (by kernel_rfl) (by kernel_rfl) ⟨isC_stable _, isC_stable _, isC_stable _, trivial⟩ ?_
        repeat (first
          | (refine lex_skip rfl ?_; simp only [Act.put, List.setIfInBounds_toArray, List.set_cons_zero, List.set_cons_succ])
          | (refine lex_quiet rfl rfl rfl (fun K hK => ?_); unfold Reg; go_big_quiet_op; refine hK _ ?_; clear hK K))
        refine lex_rel rfl rfl (fun w' hb9 hK => ?_) (fun v w' hb9 hv => ?_)
        · clear hK
          unfold grows
          go_simp
          go_at_call 25
          exact call_isC (HC.out w' hb9)
        obtain rfl := hv
        simp only [Act.put, List.setIfInBounds_toArray, List.set_cons_zero, List.set_cons_succ]
        repeat (first
          | (refine lex_skip rfl ?_; simp only [Act.put, List.setIfInBounds_toArray, List.set_cons_zero, List.set_cons_succ])
          | (refine lex_quiet rfl rfl rfl (fun K hK => ?_); unfold Reg; go_big_quiet_op; refine hK _ ?_; clear hK K))
        refine lex_nil (fun w9 hC9 _ => ?_)
        have hb9 := reg_iff.1 hC9
        clear hC9
        clear q1 q2 q3
        go_wp2
        go_ret
        exact ⟨by rw [Hl.out, e.out]; rfl, hb.trans (hb9.mono hbs)⟩
      | true =>
      cases f with
      | true =>
        have e : Hid (F = false) := hide (by rw [Hd2.out]; simp)
        clear Hd2 htri Hemp hp1 hR Hnx
        go_upto_region 4 with fail
        refine wp_region_grow [(14, isC (.bool true)), (21, isC (.bool true)), (28, isC (.bool m))] [14, 21, 28]
          (by kernel_rfl) (by kernel_rfl) rfl (by kernel_rfl) (by kernel_rfl) ⟨isC_stable _, isC_stable _, isC_stable _, trivial⟩ ?_
        repeat (first
          | (refine lex_skip rfl ?_; simp only [Act.put, List.setIfInBounds_toArray, List.set_cons_zero, List.set_cons_succ])
          | (refine lex_quiet rfl rfl rfl (fun K hK => ?_); unfold Reg; go_big_quiet_op; refine hK _ ?_; clear hK K))
        refine lex_rel rfl rfl (fun w' hb9 hK => ?_) (fun v w' hb9 hv => ?_)
        · clear hK
          unfold grows
          go_simp
          go_at_call 25
          exact call_isC (HC.out w' hb9)
        obtain rfl := hv
        simp only [Act.put, List.setIfInBounds_toArray, List.set_cons_zero, List.set_cons_succ]
        repeat (first
          | (refine lex_skip rfl ?_; simp only [Act.put, List.setIfInBounds_toArray, List.set_cons_zero, List.set_cons_succ])
          | (refine lex_quiet rfl rfl rfl (fun K hK => ?_); unfold Reg; go_big_quiet_op; refine hK _ ?_; clear hK K))
        refine lex_rel rfl rfl (fun w' hb9 hK => ?_) (fun v w' hb9 hv => ?_)
        · clear hK
          unfold grows
          go_simp
          go_at_call 17
          exact call_isC (HF.out w' hb9)
        obtain rfl := hv
        simp only [Act.put, List.setIfInBounds_toArray, List.set_cons_zero, List.set_cons_succ]
        repeat (first
          | (refine lex_skip rfl ?_; simp only [Act.put, List.setIfInBounds_toArray, List.set_cons_zero, List.set_cons_succ])
          | (refine lex_quiet rfl rfl rfl (fun K hK => ?_); unfold Reg; go_big_quiet_op; refine hK _ ?_; clear hK K))
        refine lex_nil (fun w9 hC9 _ => ?_)
        have hb9 := reg_iff.1 hC9
        clear hC9
        clear q1 q2 q3
        go_wp2
        go_ret
        exact ⟨by rw [Hl.out, e.out]; rfl, hb.trans (hb9.mono hbs)⟩
      | false =>
      cases m with
      | true =>
        have e : Hid (F = false) := hide (by rw [Hd2.out]; simp)
        clear Hd2 htri Hemp hp1 hR Hnx
        go_upto_region 4 with fail
        refine wp_region_grow [(14, isC (.bool true)), (21, isC (.bool false)), (28, isC (.bool true))] [14, 21, 28]
          (by kernel_rfl) (by kernel_rfl) rfl (by kernel_rfl) (by kernel_rfl) ⟨isC_stable _, isC_stable _, isC_stable _, trivial⟩ ?_
        repeat (first
          | (refine lex_skip rfl ?_; simp only [Act.put, List.setIfInBounds_toArray, List.set_cons_zero, List.set_cons_succ])
          | (refine lex_quiet rfl rfl rfl (fun K hK => ?_); unfold Reg; go_big_quiet_op; refine hK _ ?_; clear hK K))
        refine lex_rel rfl rfl (fun w' hb9 hK => ?_) (fun v w' hb9 hv => ?_)
        · clear hK
          unfold grows
          go_simp
          go_at_call 25
          exact call_isC (HC.out w' hb9)
        obtain rfl := hv
        simp only [Act.put, List.setIfInBounds_toArray, List.set_cons_zero, List.set_cons_succ]
        repeat (first
          | (refine lex_skip rfl ?_; simp only [Act.put, List.setIfInBounds_toArray, List.set_cons_zero, List.set_cons_succ])
          | (refine lex_quiet rfl rfl rfl (fun K hK => ?_); unfold Reg; go_big_quiet_op; refine hK _ ?_; clear hK K))
        refine lex_rel rfl rfl (fun w' hb9 hK => ?_) (fun v w' hb9 hv => ?_)
        · clear hK
          unfold grows
          go_simp
          go_at_call 17
          exact call_isC (HF.out w' hb9)
        obtain rfl := hv
        simp only [Act.put, List.setIfInBounds_toArray, List.set_cons_zero, List.set_cons_succ]
        repeat (first
          | (refine lex_skip rfl ?_; simp only [Act.put, List.setIfInBounds_toArray, List.set_cons_zero, List.set_cons_succ])
          | (refine lex_quiet rfl rfl rfl (fun K hK => ?_); unfold Reg; go_big_quiet_op; refine hK _ ?_; clear hK K))
        refine lex_rel rfl rfl (fun w' hb9 hK => ?_) (fun v w' hb9 hv => ?_)
        · clear hK
          unfold grows
          go_simp
          go_at_call 26
          exact call_isC (HE.out w' hb9)
        obtain rfl := hv
        simp only [Act.put, List.setIfInBounds_toArray, List.set_cons_zero, List.set_cons_succ]
        repeat (first
          | (refine lex_skip rfl ?_; simp only [Act.put, List.setIfInBounds_toArray, List.set_cons_zero, List.set_cons_succ])
          | (refine lex_quiet rfl rfl rfl (fun K hK => ?_); unfold Reg; go_big_quiet_op; refine hK _ ?_; clear hK K))
        refine lex_nil (fun w9 hC9 _ => ?_)
        have hb9 := reg_iff.1 hC9
        clear hC9
        clear q1 q2 q3
        go_wp2
        go_ret
        exact ⟨by rw [Hl.out, e.out]; rfl, hb.trans (hb9.mono hbs)⟩
      | false =>
      by_cases h0 : i = 0
      · have e : Hid (F = okCQ nm (l.drop (i + 1))) := hide (by rw [Hd2.out, hp0.out h0, Hemp.out (by first | rfl | trivial)]; rfl)
        have hz0 : ¬ 0 < i := by omega
        clear Hd2 htri Hemp hp1 hp0 hR h0
        go_upto_region 4 with fail
        refine wp_region_grow [(14, isC (.bool true)), (21, isC (.bool false)), (28, isC (.bool false))] [14, 21, 28]
          (by kernel_rfl) (by kernel_rfl) rfl (by kernel_rfl) (by kernel_rfl) ⟨isC_stable _, isC_stable _, isC_stable _, trivial⟩ ?_
        repeat (first
          | (refine lex_skip rfl ?_; simp only [Act.put, List.setIfInBounds_toArray, List.set_cons_zero, List.set_cons_succ])
          | (refine lex_quiet rfl rfl rfl (fun K hK => ?_); unfold Reg; go_big_quiet_op; refine hK _ ?_; clear hK K))
        refine lex_rel rfl rfl (fun w' hb9 hK => ?_) (fun v w' hb9 hv => ?_)
        · clear hK
          unfold grows
          go_simp
          go_at_call 25
          exact call_isC (HC.out w' hb9)
        obtain rfl := hv
        simp only [Act.put, List.setIfInBounds_toArray, List.set_cons_zero, List.set_cons_succ]
        repeat (first
          | (refine lex_skip rfl ?_; simp only [Act.put, List.setIfInBounds_toArray, List.set_cons_zero, List.set_cons_succ])
          | (refine lex_quiet rfl rfl rfl (fun K hK => ?_); unfold Reg; go_big_quiet_op; refine hK _ ?_; clear hK K))
        refine lex_rel rfl rfl (fun w' hb9 hK => ?_) (fun v w' hb9 hv => ?_)
        · clear hK
          unfold grows
          go_simp
          go_at_call 17
          exact call_isC (HF.out w' hb9)
        obtain rfl := hv
        simp only [Act.put, List.setIfInBounds_toArray, List.set_cons_zero, List.set_cons_succ]
        repeat (first
          | (refine lex_skip rfl ?_; simp only [Act.put, List.setIfInBounds_toArray, List.set_cons_zero, List.set_cons_succ])
          | (refine lex_quiet rfl rfl rfl (fun K hK => ?_); unfold Reg; go_big_quiet_op; refine hK _ ?_; clear hK K))
        refine lex_rel rfl rfl (fun w' hb9 hK => ?_) (fun v w' hb9 hv => ?_)
        · clear hK
          unfold grows
          go_simp
          go_at_call 26
          exact call_isC (HE.out w' hb9)
        obtain rfl := hv
        simp only [Act.put, List.setIfInBounds_toArray, List.set_cons_zero, List.set_cons_succ]
        repeat (first
          | (refine lex_skip rfl ?_; simp only [Act.put, List.setIfInBounds_toArray, List.set_cons_zero, List.set_cons_succ])
          | (refine lex_quiet rfl rfl rfl (fun K hK => ?_); unfold Reg; go_big_quiet_op; refine hK _ ?_; clear hK K))
        refine lex_nil (fun w9 hC9 _ => ?_)
        have hb9 := reg_iff.1 hC9
        clear hC9
        clear q1 q2 q3
        go_wp2
        go_roundw
        case rel => exact ⟨i + 1, nm, by omega, by go_num, hide (fun h => by omega), Hnx, e, hb.trans (hb9.mono hbs)⟩
        case measure => simp [RowKit.intOf]; omega
      · obtain ⟨j, hj⟩ : ∃ j, i = j + 1 := ⟨i - 1, by omega⟩
        obtain ⟨q', hx', hq'⟩ := hp1.out j hj
        obtain ⟨ad2, q2', _, _, _, e2, hbl2, hx2, _, d1, _, _⟩ := TmIn.at_ hR (k := j) (by omega)
        injection e2 with e2
        subst e2
        rw [hx'] at hx2
        injection hx2 with hx2
        rw [← hx2, hq'] at d1
        have q4 := cell_in d1 (by rw [block_of_add]; omega)
        have hz0 : 0 < i := by omega
        have hj1 : IntKind.i64.wrap ((i : Int) - 1) = (j : Int) := by rw [IntKind.wrap_i64]; omega
        have hj2 : (0 : Int) ≤ (j : Int) := by omega
        have hj3 : (j : Int) < (n : Int) := by omega
        have Hj := hide hj
        clear hj
        clear d1 hx2 hx' hq' hp1 hp0 hR h0 hx
        rcases htri with ⟨f1, f2, f3⟩ | ⟨f1, f2, f3⟩ | ⟨f1, f2, f3⟩
        · have e : Hid (F = false) := hide (by rw [Hd2.out, f2]; simp)
          clear Hd2 Hemp Hnx f2
          go_upto_region 4 with fail
          refine wp_region_grow [(14, isC (.bool true)), (21, isC (.bool false)), (28, isC (.bool false))] [14, 21, 28]
            (by kernel_rfl) (by kernel_rfl) rfl (by kernel_rfl) (by kernel_rfl) ⟨isC_stable _, isC_stable _, isC_stable _, trivial⟩ ?_
          repeat (first
            | (refine lex_skip rfl ?_; simp only [Act.put, List.setIfInBounds_toArray, List.set_cons_zero, List.set_cons_succ])
            | (refine lex_quiet rfl rfl rfl (fun K hK => ?_); unfold Reg; go_big_quiet_op; refine hK _ ?_; clear hK K))
          refine lex_rel rfl rfl (fun w' hb9 hK => ?_) (fun v w' hb9 hv => ?_)
          · clear hK
            unfold grows
            go_simp
            go_at_call 25
            exact call_isC (HC.out w' hb9)
          obtain rfl := hv
          simp only [Act.put, List.setIfInBounds_toArray, List.set_cons_zero, List.set_cons_succ]
          repeat (first
            | (refine lex_skip rfl ?_; simp only [Act.put, List.setIfInBounds_toArray, List.set_cons_zero, List.set_cons_succ])
            | (refine lex_quiet rfl rfl rfl (fun K hK => ?_); unfold Reg; go_big_quiet_op; refine hK _ ?_; clear hK K))
          refine lex_rel rfl rfl (fun w' hb9 hK => ?_) (fun v w' hb9 hv => ?_)
          · clear hK
            unfold grows
            go_simp
            go_at_call 17
            exact call_isC (HF.out w' hb9)
          obtain rfl := hv
          simp only [Act.put, List.setIfInBounds_toArray, List.set_cons_zero, List.set_cons_succ]
          repeat (first
            | (refine lex_skip rfl ?_; simp only [Act.put, List.setIfInBounds_toArray, List.set_cons_zero, List.set_cons_succ])
            | (refine lex_quiet rfl rfl rfl (fun K hK => ?_); unfold Reg; go_big_quiet_op; refine hK _ ?_; clear hK K))
          refine lex_rel rfl rfl (fun w' hb9 hK => ?_) (fun v w' hb9 hv => ?_)
          · clear hK
            unfold grows
            go_simp
            go_at_call 26
            exact call_isC (HE.out w' hb9)
          obtain rfl := hv
          simp only [Act.put, List.setIfInBounds_toArray, List.set_cons_zero, List.set_cons_succ]
          repeat (first
            | (refine lex_skip rfl ?_; simp only [Act.put, List.setIfInBounds_toArray, List.set_cons_zero, List.set_cons_succ])
            | (refine lex_quiet rfl rfl rfl (fun K hK => ?_); unfold Reg; go_big_quiet_op; refine hK _ ?_; clear hK K))
          refine lex_nil (fun w9 hC9 _ => ?_)
          have hb9 := reg_iff.1 hC9
          clear hC9
          clear q1 q2 q3 q4
          go_wp2
          go_ret
          exact ⟨by rw [Hl.out, e.out]; rfl, hb.trans (hb9.mono hbs)⟩
        · have e : Hid (F = false) := hide (by rw [Hd2.out, f2]; simp)
          clear Hd2 Hemp Hnx f2
          go_upto_region 4 with fail
          refine wp_region_grow [(14, isC (.bool true)), (21, isC (.bool false)), (28, isC (.bool false))] [14, 21, 28]
            (by kernel_rfl) (by kernel_rfl) rfl (by kernel_rfl) (by kernel_rfl) ⟨isC_stable _, isC_stable _, isC_stable _, trivial⟩ ?_
          repeat (first
            | (refine lex_skip rfl ?_; simp only [Act.put, List.setIfInBounds_toArray, List.set_cons_zero, List.set_cons_succ])
            | (refine lex_quiet rfl rfl rfl (fun K hK => ?_); unfold Reg; go_big_quiet_op; refine hK _ ?_; clear hK K))
          refine lex_rel rfl rfl (fun w' hb9 hK => ?_) (fun v w' hb9 hv => ?_)
          · clear hK
            unfold grows
            go_simp
            go_at_call 25
            exact call_isC (HC.out w' hb9)
          obtain rfl := hv
          simp only [Act.put, List.setIfInBounds_toArray, List.set_cons_zero, List.set_cons_succ]
          repeat (first
            | (refine lex_skip rfl ?_; simp only [Act.put, List.setIfInBounds_toArray, List.set_cons_zero, List.set_cons_succ])
            | (refine lex_quiet rfl rfl rfl (fun K hK => ?_); unfold Reg; go_big_quiet_op; refine hK _ ?_; clear hK K))
          refine lex_rel rfl rfl (fun w' hb9 hK => ?_) (fun v w' hb9 hv => ?_)
          · clear hK
            unfold grows
            go_simp
            go_at_call 17
            exact call_isC (HF.out w' hb9)
          obtain rfl := hv
          simp only [Act.put, List.setIfInBounds_toArray, List.set_cons_zero, List.set_cons_succ]
          repeat (first
            | (refine lex_skip rfl ?_; simp only [Act.put, List.setIfInBounds_toArray, List.set_cons_zero, List.set_cons_succ])
            | (refine lex_quiet rfl rfl rfl (fun K hK => ?_); unfold Reg; go_big_quiet_op; refine hK _ ?_; clear hK K))
          refine lex_rel rfl rfl (fun w' hb9 hK => ?_) (fun v w' hb9 hv => ?_)
          · clear hK
            unfold grows
            go_simp
            go_at_call 26
            exact call_isC (HE.out w' hb9)
          obtain rfl := hv
          simp only [Act.put, List.setIfInBounds_toArray, List.set_cons_zero, List.set_cons_succ]
          repeat (first
            | (refine lex_skip rfl ?_; simp only [Act.put, List.setIfInBounds_toArray, List.set_cons_zero, List.set_cons_succ])
            | (refine lex_quiet rfl rfl rfl (fun K hK => ?_); unfold Reg; go_big_quiet_op; refine hK _ ?_; clear hK K))
          refine lex_nil (fun w9 hC9 _ => ?_)
          have hb9 := reg_iff.1 hC9
          clear hC9
          clear q1 q2 q3 q4
          go_wp2
          go_ret
          exact ⟨by rw [Hl.out, e.out]; rfl, hb.trans (hb9.mono hbs)⟩
        · have e : Hid (F = okCQ nm (l.drop (i + 1))) := hide (by rw [Hd2.out, f2]; rfl)
          clear Hd2 Hemp f2
          go_upto_region 4 with fail
          refine wp_region_grow [(14, isC (.bool true)), (21, isC (.bool false)), (28, isC (.bool false))] [14, 21, 28]
            (by kernel_rfl) (by kernel_rfl) rfl (by kernel_rfl) (by kernel_rfl) ⟨isC_stable _, isC_stable _, isC_stable _, trivial⟩ ?_
          repeat (first
            | (refine lex_skip rfl ?_; simp only [Act.put, List.setIfInBounds_toArray, List.set_cons_zero, List.set_cons_succ])
            | (refine lex_quiet rfl rfl rfl (fun K hK => ?_); unfold Reg; go_big_quiet_op; refine hK _ ?_; clear hK K))
          refine lex_rel rfl rfl (fun w' hb9 hK => ?_) (fun v w' hb9 hv => ?_)
          · clear hK
            unfold grows
            go_simp
            go_at_call 25
            exact call_isC (HC.out w' hb9)
          obtain rfl := hv
          simp only [Act.put, List.setIfInBounds_toArray, List.set_cons_zero, List.set_cons_succ]
          repeat (first
            | (refine lex_skip rfl ?_; simp only [Act.put, List.setIfInBounds_toArray, List.set_cons_zero, List.set_cons_succ])
            | (refine lex_quiet rfl rfl rfl (fun K hK => ?_); unfold Reg; go_big_quiet_op; refine hK _ ?_; clear hK K))
          refine lex_rel rfl rfl (fun w' hb9 hK => ?_) (fun v w' hb9 hv => ?_)
          · clear hK
            unfold grows
            go_simp
            go_at_call 17
            exact call_isC (HF.out w' hb9)
          obtain rfl := hv
          simp only [Act.put, List.setIfInBounds_toArray, List.set_cons_zero, List.set_cons_succ]
          repeat (first
            | (refine lex_skip rfl ?_; simp only [Act.put, List.setIfInBounds_toArray, List.set_cons_zero, List.set_cons_succ])
            | (refine lex_quiet rfl rfl rfl (fun K hK => ?_); unfold Reg; go_big_quiet_op; refine hK _ ?_; clear hK K))
          refine lex_rel rfl rfl (fun w' hb9 hK => ?_) (fun v w' hb9 hv => ?_)
          · clear hK
            unfold grows
            go_simp
            go_at_call 26
            exact call_isC (HE.out w' hb9)
          obtain rfl := hv
          simp only [Act.put, List.setIfInBounds_toArray, List.set_cons_zero, List.set_cons_succ]
          repeat (first
            | (refine lex_skip rfl ?_; simp only [Act.put, List.setIfInBounds_toArray, List.set_cons_zero, List.set_cons_succ])
            | (refine lex_quiet rfl rfl rfl (fun K hK => ?_); unfold Reg; go_big_quiet_op; refine hK _ ?_; clear hK K))
          refine lex_nil (fun w9 hC9 _ => ?_)
          have hb9 := reg_iff.1 hC9
          clear hC9
          clear q1 q2 q3 q4
          go_wp2
          go_roundw
          case rel => exact ⟨i + 1, nm, by omega, by go_num, hide (fun h => by omega), Hnx, e, hb.trans (hb9.mono hbs)⟩
          case measure => simp [RowKit.intOf]; omega
    · have e : Hid (F = true) := hide (by rw [hf.out, List.drop_of_length_le (by have := Hlen.out; omega)]; rfl)
      clear hf
      go_wp2
      go_ret
      exact ⟨by rw [Hl.out, e.out]; rfl, hb⟩
end Go.Proofs.YtllogmokadcfmaaGreat.Clash
