/-
  Some texts of this claim, one behind the other: PickRefCheck. What each proves, and its condition, stands at its head.
-/
import Derived.Test.YtdmejcfnolhplaaGreatZB22
import Derived.Test.YtdmejcfnolhplaaGreatZB13
import Derived.Test.YtdmejcfnolhplaaGreatZB11
import Derived.Test.YtdmejcfnolhplaaGreatZB8
/-
  The contract of the document's Check: which picks may be. Condition: names of at most 1,000,000,000 bytes.
-/
namespace Go.Proofs.YtdmejcfnolhplaaGreat.Pick
open Go Go.RowKit Go.Lib Go.Proofs.YtdmejcfnolhplaaGreat.Need Go.Proofs.YtdmejcfnolhplaaGreat.Grow
open Go.Proofs.YtdmejcfnolhplaaGreat.Label (runes fitL refFit_any)
open Go.Proofs.YtdmejcfnolhplaaGreat.Ver (refFit_yes refFit_no)
set_option linter.unusedVariables false
theorem cell_in {w : World} {p : Addr} {v : Value} (h : w.cell? p = some v) (hp : p.block < w.heap.size) (d : Nat) (os : Array Obj) : (Sort.grow (redrawn w d) os).cell? p = some v :=
  ((below_regrown w d os).cell hp).trans h
theorem refVFit_any (p : Int) (w : World) : Calls Tryz.prog 34 #[.int .i64 p] w fun e w' => e = .returned (.bool (verOk p)) ∧ w = w' := by
  unfold verOk
  by_cases h : 0 ≤ p ∧ p < 1000000000
  · rw [decide_eq_true h]; exact refFit_yes p w h.1 h.2
  · rw [decide_eq_false h]; exact refFit_no p w h
theorem call_same {f : FuncId} {args : Array Value} {w' : World} {c : Value} (h : Calls Tryz.prog f args w' fun e w'' => e = .returned c ∧ w' = w'') :
    Calls Tryz.prog f args w' fun e w'' => ∃ v, e = .returned v ∧ Below w'.heap.size w' w'' ∧ isC c w'' v :=
  h.mono fun _ _ ⟨he, hw⟩ => ⟨_, he, by rw [← hw]; exact Below.refl _ _, rfl⟩
set_option maxHeartbeats 8000000 in
set_option maxRecDepth 100000 in
theorem refCheckP_any (l : List Pk) (A : Option Addr) (n c : Nat) (w : World) (h : PkOn w A n l) (hl : ∀ q ∈ l, q.1.size ≤ 1000000000) (hn : n ≤ 1000000) :
    Calls Tryz.prog 20 #[.slice A n c] w fun e w' => e = .returned (.bool (okP l)) ∧ Below w.heap.size w w' := by
  have hlen := h.len
  have Hd := hide (fun a i q => @okQ_drop l a i q)
  obtain ⟨F, hF⟩ : ∃ F, F = okQ ByteArray.empty l := ⟨_, rfl⟩
  have Hl : Hid (okP l = F) := hide hF.symm
  have HF := hide hF
  have Hlen := hide hlen
  clear hF hlen
  generalize okP l = L at *
  go_enter Tryz.func20, Tryz.ntmps20
  go_wp2
  go_loopw [3] (fun v wr => ∃ (i : Nat) (p : ByteArray), i ≤ n ∧ v = .int .i64 (i : Int) ∧ Hid (i = 0 → p = ByteArray.empty) ∧ Hid (∀ j, i = j + 1 → ∃ q, l[j]? = some q ∧ q.1 = p) ∧ Hid (F = okQ p (l.drop i)) ∧ Below w.heap.size w wr) (fun v _ => n - (RowKit.intOf v).toNat)
  case atStart => exact ⟨0, ByteArray.empty, by omega, rfl, hide (fun _ => rfl), hide (fun j hj => by omega), HF, Below.refl _ _⟩
  case round =>
    obtain ⟨i, p, hi, rfl, hp0, hp1, hf, hb⟩ := hrel
    by_cases hlt : i < n
    · have hR := PkIn.below h hb
      obtain ⟨ad, q, rfl, hbl, hx, c1, c2⟩ := PkIn.at_ hR hlt
      have hq1 := hl q (List.mem_of_getElem? hx)
      have hd := hf.out.trans (Hd.out p i q hx)
      have hbs := hb.size
      have q1 := cell_in c1 (by rw [block_of_add]; omega)
      have q2 := cell_in c2 (by simp only [block_of_add]; omega)
      have Hnx := hide (fun j (hj : i + 1 = j + 1) => show ∃ q' : Pk, l[j]? = some q' ∧ q'.1 = q.1 from ⟨q, by rw [← Nat.succ.inj hj]; exact hx, rfl⟩)
      have hi1 : (0 : Int) ≤ (i : Int) := by omega
      have hi2 : (i : Int) < (n : Int) := by omega
      obtain ⟨nm, v⟩ := q
      simp only [] at q1 q2 hq1 hd Hnx
      have HC := hide (fun (wx : World) => refVFit_any v wx)
      have HW := hide (fun (wx : World) => refFit_any nm wx hq1)
      have Hd2 := hide hd
      have Hemp := hide (fun (g : fitL (runes nm 0) = true) => empty_lt (fit_some g))
      have htri := triP nm p
      clear hq1 hd c1 c2
      generalize fitL (runes nm 0) = y at *
      generalize verOk v = z at *
      cases y
      · have e : Hid (F = false) := hide (by rw [Hd2.out]; simp)
        clear Hd2 htri Hemp hp1 hR Hnx
        go_upto_region 4 with fail
        refine wp_region_grow [(15, isC (.bool false)), (23, isC (.bool false))] [15, 23]
          (by kernel_rfl) (by kernel_rfl) rfl (by kernel_rfl) (by kernel_rfl) ⟨isC_stable _, isC_stable _, trivial⟩ ?_
        repeat (first
          | (refine lex_skip rfl ?_; simp only [Act.put, List.setIfInBounds_toArray, List.set_cons_zero, List.set_cons_succ])
          | (refine lex_quiet rfl rfl rfl (fun K hK => ?_); unfold Reg; go_big_quiet_op; refine hK _ ?_; clear hK K)
          | (refine lex_rel rfl rfl (fun w' hb9 hK => ?_) (fun v w' hb9 hv => ?_)
             · unfold grows
               go_simp
               first
                 | (go_at_call 23
                    exact call_isC (HW.out w'))
                 | (go_at_call 34
                    exact call_same (HC.out w'))
             obtain rfl := hv
             simp only [Act.put, List.setIfInBounds_toArray, List.set_cons_zero, List.set_cons_succ]))
        refine lex_nil (fun w9 hC9 _ => ?_)
        have hb9 := reg_iff.1 hC9
        clear q1 q2
        go_wp2
        go_ret
        exact ⟨by rw [Hl.out, e.out]; rfl, hb.trans (hb9.mono hbs)⟩
      · cases z
        · have e : Hid (F = false) := hide (by rw [Hd2.out]; simp)
          clear Hd2 htri Hemp hp1 hR Hnx
          go_upto_region 4 with fail
          refine wp_region_grow [(15, isC (.bool true)), (23, isC (.bool false))] [15, 23]
            (by kernel_rfl) (by kernel_rfl) rfl (by kernel_rfl) (by kernel_rfl) ⟨isC_stable _, isC_stable _, trivial⟩ ?_
          repeat (first
            | (refine lex_skip rfl ?_; simp only [Act.put, List.setIfInBounds_toArray, List.set_cons_zero, List.set_cons_succ])
            | (refine lex_quiet rfl rfl rfl (fun K hK => ?_); unfold Reg; go_big_quiet_op; refine hK _ ?_; clear hK K)
            | (refine lex_rel rfl rfl (fun w' hb9 hK => ?_) (fun v w' hb9 hv => ?_)
               · unfold grows
                 go_simp
                 first
                   | (go_at_call 23
                      exact call_isC (HW.out w'))
                   | (go_at_call 34
                      exact call_same (HC.out w'))
               obtain rfl := hv
               simp only [Act.put, List.setIfInBounds_toArray, List.set_cons_zero, List.set_cons_succ]))
          refine lex_nil (fun w9 hC9 _ => ?_)
          have hb9 := reg_iff.1 hC9
          clear q1 q2
          go_wp2
          go_ret
          exact ⟨by rw [Hl.out, e.out]; rfl, hb.trans (hb9.mono hbs)⟩
        · by_cases h0 : i = 0
          · have e : Hid (F = okQ nm (l.drop (i + 1))) := hide (by rw [Hd2.out, hp0.out h0, Hemp.out (by first | rfl | trivial)]; rfl)
            have hz0 : ¬ 0 < i := by omega
            clear Hd2 htri Hemp hp1 hp0 hR h0
            go_upto_region 4 with fail
            refine wp_region_grow [(15, isC (.bool true)), (23, isC (.bool true))] [15, 23]
              (by kernel_rfl) (by kernel_rfl) rfl (by kernel_rfl) (by kernel_rfl) ⟨isC_stable _, isC_stable _, trivial⟩ ?_
            repeat (first
              | (refine lex_skip rfl ?_; simp only [Act.put, List.setIfInBounds_toArray, List.set_cons_zero, List.set_cons_succ])
              | (refine lex_quiet rfl rfl rfl (fun K hK => ?_); unfold Reg; go_big_quiet_op; refine hK _ ?_; clear hK K)
              | (refine lex_rel rfl rfl (fun w' hb9 hK => ?_) (fun v w' hb9 hv => ?_)
                 · unfold grows
                   go_simp
                   first
                     | (go_at_call 23
                        exact call_isC (HW.out w'))
                     | (go_at_call 34
                        exact call_same (HC.out w'))
                 obtain rfl := hv
                 simp only [Act.put, List.setIfInBounds_toArray, List.set_cons_zero, List.set_cons_succ]))
            refine lex_nil (fun w9 hC9 _ => ?_)
            have hb9 := reg_iff.1 hC9
            clear q1 q2
            go_wp2
            go_roundw
            case rel => exact ⟨i + 1, nm, by omega, by go_num, hide (fun h => by omega), Hnx, e, hb.trans (hb9.mono hbs)⟩
            case measure => simp [RowKit.intOf]; omega
          · obtain ⟨j, hj⟩ : ∃ j, i = j + 1 := ⟨i - 1, by omega⟩
            obtain ⟨q', hx', hq'⟩ := hp1.out j hj
            obtain ⟨ad2, q2', e2, hbl2, hx2, d1, d2⟩ := PkIn.at_ hR (k := j) (by omega)
            injection e2 with e2
            subst e2
            rw [hx'] at hx2
            injection hx2 with hx2
            rw [← hx2, hq'] at d1
            have q3 := cell_in d1 (by rw [block_of_add]; omega)
            have hz0 : 0 < i := by omega
            have hj1 : IntKind.i64.wrap ((i : Int) - 1) = (j : Int) := by rw [IntKind.wrap_i64]; omega
            have hj2 : (0 : Int) ≤ (j : Int) := by omega
            have hj3 : (j : Int) < (n : Int) := by omega
            have Hj := hide hj
            clear hj
            clear d1 d2 hx2 hx' hq' hp1 hp0 hR h0 hx
            rcases htri with ⟨f1, f2, f3⟩ | ⟨f1, f2, f3⟩ | ⟨f1, f2, f3⟩
            · have e : Hid (F = false) := hide (by rw [Hd2.out, f2]; simp)
              clear Hd2 Hemp Hnx f2
              go_upto_region 4 with fail
              refine wp_region_grow [(15, isC (.bool true)), (23, isC (.bool true))] [15, 23]
                (by kernel_rfl) (by kernel_rfl) rfl (by kernel_rfl) (by kernel_rfl) ⟨isC_stable _, isC_stable _, trivial⟩ ?_
              repeat (first
                | (refine lex_skip rfl ?_; simp only [Act.put, List.setIfInBounds_toArray, List.set_cons_zero, List.set_cons_succ])
                | (refine lex_quiet rfl rfl rfl (fun K hK => ?_); unfold Reg; go_big_quiet_op; refine hK _ ?_; clear hK K)
                | (refine lex_rel rfl rfl (fun w' hb9 hK => ?_) (fun v w' hb9 hv => ?_)
                   · unfold grows
                     go_simp
                     first
                       | (go_at_call 23
                          exact call_isC (HW.out w'))
                       | (go_at_call 34
                          exact call_same (HC.out w'))
                   obtain rfl := hv
                   simp only [Act.put, List.setIfInBounds_toArray, List.set_cons_zero, List.set_cons_succ]))
              refine lex_nil (fun w9 hC9 _ => ?_)
              have hb9 := reg_iff.1 hC9
              clear q1 q2 q3
              go_wp2
              go_ret
              exact ⟨by rw [Hl.out, e.out]; rfl, hb.trans (hb9.mono hbs)⟩
            · have e : Hid (F = false) := hide (by rw [Hd2.out, f2]; simp)
              clear Hd2 Hemp Hnx f2
              go_upto_region 4 with fail
              refine wp_region_grow [(15, isC (.bool true)), (23, isC (.bool true))] [15, 23]
                (by kernel_rfl) (by kernel_rfl) rfl (by kernel_rfl) (by kernel_rfl) ⟨isC_stable _, isC_stable _, trivial⟩ ?_
              repeat (first
                | (refine lex_skip rfl ?_; simp only [Act.put, List.setIfInBounds_toArray, List.set_cons_zero, List.set_cons_succ])
                | (refine lex_quiet rfl rfl rfl (fun K hK => ?_); unfold Reg; go_big_quiet_op; refine hK _ ?_; clear hK K)
                | (refine lex_rel rfl rfl (fun w' hb9 hK => ?_) (fun v w' hb9 hv => ?_)
                   · unfold grows
                     go_simp
                     first
                       | (go_at_call 23
                          exact call_isC (HW.out w'))
                       | (go_at_call 34
                          exact call_same (HC.out w'))
                   obtain rfl := hv
                   simp only [Act.put, List.setIfInBounds_toArray, List.set_cons_zero, List.set_cons_succ]))
              refine lex_nil (fun w9 hC9 _ => ?_)
              have hb9 := reg_iff.1 hC9
              clear q1 q2 q3
              go_wp2
              go_ret
              exact ⟨by rw [Hl.out, e.out]; rfl, hb.trans (hb9.mono hbs)⟩
            · have e : Hid (F = okQ nm (l.drop (i + 1))) := hide (by rw [Hd2.out, f2]; rfl)
              clear Hd2 Hemp f2
              go_upto_region 4 with fail
              refine wp_region_grow [(15, isC (.bool true)), (23, isC (.bool true))] [15, 23]
                (by kernel_rfl) (by kernel_rfl) rfl (by kernel_rfl) (by kernel_rfl) ⟨isC_stable _, isC_stable _, trivial⟩ ?_
              repeat (first
                | (refine lex_skip rfl ?_; simp only [Act.put, List.setIfInBounds_toArray, List.set_cons_zero, List.set_cons_succ])
                | (refine lex_quiet rfl rfl rfl (fun K hK => ?_); unfold Reg; go_big_quiet_op; refine hK _ ?_; clear hK K)
                | (refine lex_rel rfl rfl (fun w' hb9 hK => ?_) (fun v w' hb9 hv => ?_)
                   · unfold grows
                     go_simp
                     first
                       | (go_at_call 23
                          exact call_isC (HW.out w'))
                       | (go_at_call 34
                          exact call_same (HC.out w'))
                   obtain rfl := hv
                   simp only [Act.put, List.setIfInBounds_toArray, List.set_cons_zero, List.set_cons_succ]))
              refine lex_nil (fun w9 hC9 _ => ?_)
              have hb9 := reg_iff.1 hC9
              clear q1 q2 q3
              go_wp2
              go_roundw
              case rel => exact ⟨i + 1, nm, by omega, by go_num, hide (fun h => by omega), Hnx, e, hb.trans (hb9.mono hbs)⟩
              case measure => simp [RowKit.intOf]; omega
    · have e : Hid (F = true) := hide (by rw [hf.out, List.drop_of_length_le (by have := Hlen.out; omega)]; rfl)
      clear hf
      go_wp2
      go_ret
      exact ⟨by rw [Hl.out, e.out]; rfl, hb⟩
end Go.Proofs.YtdmejcfnolhplaaGreat.Pick
