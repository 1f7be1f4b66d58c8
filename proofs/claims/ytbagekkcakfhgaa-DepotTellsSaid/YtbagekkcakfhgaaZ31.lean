/-
  Some texts of this claim, one behind the other: DepotRefCheck. What each proves, and its condition, stands at its head.
-/
import Derived.Test.YtbagekkcakfhgaaZ21
import Derived.Test.YtbagekkcakfhgaaZ23
import Derived.Test.YtbagekkcakfhgaaZ15
import Derived.Test.YtbagekkcakfhgaaZ13
/-
  The contract of the document's Check: which depots may be. Condition: the slices read as entries; names of at most 1,000,000,000 bytes.
-/
namespace Go.Proofs.Ytbagekkcakfhgaa.Depot
open Go Go.RowKit Go.Lib Go.Proofs.Ytbagekkcakfhgaa.Span Go.Proofs.Ytbagekkcakfhgaa.Need Go.Proofs.Ytbagekkcakfhgaa.Mani Go.Proofs.Ytbagekkcakfhgaa.Wire Go.Proofs.Ytbagekkcakfhgaa.Grow
open Go.Proofs.Ytbagekkcakfhgaa.Label (runes fitL refFit_any)
set_option linter.unusedVariables false
set_option maxHeartbeats 8000000 in
set_option maxRecDepth 100000 in
theorem refCheckD_any (l : List En) (A : Option Addr) (n c : Nat) (w : World) (h : EnOn w A n l) (hl : ∀ q ∈ l, q.1.size ≤ 1000000000) (hn : n ≤ 140737488355328) :
    Calls Try.prog 8 #[.slice A n c] w (Tells w (.bool (okE l))) := by
  unfold Tells
  have hlen := h.len
  have e : okE l = (okD ByteArray.empty l && decide (n ≤ 24)) := by unfold okE; rw [hlen]
  have Hl : Hid (okE l = (okD ByteArray.empty l && decide (n ≤ 24))) := hide e
  have Hd := hide (fun a i q => @okD_drop l a i q)
  clear e
  generalize okE l = L at *
  obtain ⟨F, hF⟩ : ∃ F, F = okD ByteArray.empty l := ⟨_, rfl⟩
  rw [← hF] at Hl
  have HF := hide hF
  have Hlen := hide hlen
  clear hF hlen
  go_enter Try.func8, Try.ntmps8
  go_wp2
  go_loopw [3] (fun v wr => ∃ (i : Nat) (p : ByteArray), i ≤ n ∧ v = .int .i64 (i : Int) ∧ Hid (i = 0 → p = ByteArray.empty) ∧ Hid (∀ j, i = j + 1 → ∃ q, l[j]? = some q ∧ q.1 = p) ∧ Hid (F = okD p (l.drop i)) ∧ Below w.heap.size w wr) (fun v _ => n - (RowKit.intOf v).toNat)
  case atStart => exact ⟨0, ByteArray.empty, by omega, rfl, hide (fun _ => rfl), hide (fun j hj => by omega), HF, Below.refl _ _⟩
  case round =>
    obtain ⟨i, p, hi, rfl, hp0, hp1, hf, hb⟩ := hrel
    by_cases hlt : i < n
    · have hR := EnIn.below h hb
      obtain ⟨ad, q, A', n', c', rfl, hbl, hx, hs, c1, c2⟩ := PIn.at_ hR hlt
      have hq1 := hl q (List.mem_of_getElem? hx)
      have hd := hf.out.trans (Hd.out p i q hx)
      have hbs := hb.size
      have q1 := cell_reg_ c1 (by rw [block_of_add]; omega)
      have q2 := cell_reg_ c2 (by simp only [block_of_add]; omega)
      have Hnx := hide (fun j (hj : i + 1 = j + 1) => show ∃ q' : En, l[j]? = some q' ∧ q'.1 = q.1 from ⟨q, by rw [← Nat.succ.inj hj]; exact hx, rfl⟩)
      have hi1 : (0 : Int) ≤ (i : Int) := by omega
      have hi2 : (i : Int) < (n : Int) := by omega
      obtain ⟨nm, s⟩ := q
      have hsl : s.length = n' := by have : (bcs s).length = n' * 1 := hs.1; rw [bcs_length] at this; omega
      simp only [] at q1 q2 hq1 hd Hnx
      have HW := hide (fun (wx : World) => refFit_any nm wx hq1)
      rw [hsl] at hd
      have Hd2 := hide hd
      have Hemp := hide (fun (g : fitL (runes nm 0) = true) => nlt_empty g)
      have htri := tri nm p
      clear hs hq1 hd hsl c1 c2
      generalize fitL (runes nm 0) = y at *
      cases y
      · have e : Hid (F = false) := hide (by rw [Hd2.out]; simp)
        clear Hd2 htri Hemp hp1 hR Hnx
        go_upto_region 4 with fail
        refine wp_region_grow [(15, isC (.bool false))] [15]
          (by kernel_rfl) (by kernel_rfl) rfl (by kernel_rfl) (by kernel_rfl) ⟨isC_stable _, trivial⟩ ?_
        repeat (first
          | (refine lex_skip rfl ?_; simp only [Act.put, List.setIfInBounds_toArray, List.set_cons_zero, List.set_cons_succ])
          | (refine lex_quiet rfl rfl rfl (fun K hK => ?_); unfold Reg; go_big_quiet_op; refine hK _ ?_; clear hK K)
          | (refine lex_rel rfl rfl (fun w' hb9 hK => ?_) (fun v w' hb9 hv => ?_)
             · unfold grows
               go_simp
               go_at_call 9
               exact call_isC (HW.out w')
             obtain rfl := hv
             simp only [Act.put, List.setIfInBounds_toArray, List.set_cons_zero, List.set_cons_succ]))
        refine lex_nil (fun w9 hC9 _ => ?_)
        have hb9 := reg_iff.1 hC9
        clear q1 q2
        go_wp2
        go_ret
        exact ⟨by rw [Hl.out, e.out]; rfl, hb.trans (hb9.mono hbs)⟩
      · by_cases h6 : 8192 < n'
        · have e : Hid (F = false) := hide (by rw [Hd2.out, decide_eq_false (show ¬ n' ≤ 8192 by omega)]; simp)
          have h6z : (8192 : Int) < (n' : Int) := by omega
          clear Hd2 htri Hemp hp1 hR Hnx
          go_upto_region 4 with fail
          refine wp_region_grow [(15, isC (.bool true))] [15]
            (by kernel_rfl) (by kernel_rfl) rfl (by kernel_rfl) (by kernel_rfl) ⟨isC_stable _, trivial⟩ ?_
          repeat (first
            | (refine lex_skip rfl ?_; simp only [Act.put, List.setIfInBounds_toArray, List.set_cons_zero, List.set_cons_succ])
            | (refine lex_quiet rfl rfl rfl (fun K hK => ?_); unfold Reg; go_big_quiet_op; refine hK _ ?_; clear hK K)
            | (refine lex_rel rfl rfl (fun w' hb9 hK => ?_) (fun v w' hb9 hv => ?_)
               · unfold grows
                 go_simp
                 go_at_call 9
                 exact call_isC (HW.out w')
               obtain rfl := hv
               simp only [Act.put, List.setIfInBounds_toArray, List.set_cons_zero, List.set_cons_succ]))
          refine lex_nil (fun w9 hC9 _ => ?_)
          have hb9 := reg_iff.1 hC9
          clear q1 q2
          go_wp2
          go_ret
          exact ⟨by rw [Hl.out, e.out]; rfl, hb.trans (hb9.mono hbs)⟩
        · have h6z : ¬ (8192 : Int) < (n' : Int) := by omega
          rw [decide_eq_true (show n' ≤ 8192 by omega)] at Hd2
          by_cases h0 : i = 0
          · have e : Hid (F = okD nm (l.drop (i + 1))) := hide (by rw [Hd2.out, hp0.out h0, Hemp.out (by first | rfl | trivial)]; rfl)
            have h0z : ¬ 0 < i := by omega
            clear Hd2 htri Hemp hp1 hR h0
            go_upto_region 4 with fail
            refine wp_region_grow [(15, isC (.bool true))] [15]
              (by kernel_rfl) (by kernel_rfl) rfl (by kernel_rfl) (by kernel_rfl) ⟨isC_stable _, trivial⟩ ?_
            repeat (first
              | (refine lex_skip rfl ?_; simp only [Act.put, List.setIfInBounds_toArray, List.set_cons_zero, List.set_cons_succ])
              | (refine lex_quiet rfl rfl rfl (fun K hK => ?_); unfold Reg; go_big_quiet_op; refine hK _ ?_; clear hK K)
              | (refine lex_rel rfl rfl (fun w' hb9 hK => ?_) (fun v w' hb9 hv => ?_)
                 · unfold grows
                   go_simp
                   go_at_call 9
                   exact call_isC (HW.out w')
                 obtain rfl := hv
                 simp only [Act.put, List.setIfInBounds_toArray, List.set_cons_zero, List.set_cons_succ]))
            refine lex_nil (fun w9 hC9 _ => ?_)
            have hb9 := reg_iff.1 hC9
            clear q1 q2
            go_wp2
            go_roundw
            case rel => exact ⟨i + 1, nm, by omega, by go_num, hide (fun h => by omega), Hnx, e, hb.trans (hb9.mono hbs)⟩
            case measure => simp [RowKit.intOf]; omega
          · obtain ⟨j, hj⟩ : ∃ j, i = j + 1 := ⟨i - 1, by omega⟩
            obtain ⟨q', hx', hq'⟩ := hp1.out j hj
            obtain ⟨ad', q'', A'', n'', c'', e', _, hx'', _, c1', _⟩ := PIn.at_ hR (k := j) (by omega)
            injection e' with e'
            subst e'
            rw [hx'] at hx''
            injection hx'' with hx''
            subst hx''
            rw [hq'] at c1'
            have q3 := cell_reg_ c1' (by rw [block_of_add]; omega)
            have h0z : 0 < i := by omega
            have j1 : (0 : Int) ≤ (j : Int) := by omega
            have j2 : (j : Int) < (n : Int) := by omega
            have j3 : IntKind.i64.wrap ((i : Int) - 1) = (j : Int) := by rw [IntKind.wrap_i64]; omega
            have Hj := hide hj
            clear hj hx' hq' c1' hR hp1 Hemp h0
            rcases htri with ⟨f1, f2, f3⟩ | ⟨f1, f2, f3⟩ | ⟨f1, f2, f3⟩
            · have e : Hid (F = false) := hide (by rw [Hd2.out, f2]; simp)
              clear Hd2 f2 Hnx
              go_upto_region 4 with fail
              refine wp_region_grow [(15, isC (.bool true))] [15]
                (by kernel_rfl) (by kernel_rfl) rfl (by kernel_rfl) (by kernel_rfl) ⟨isC_stable _, trivial⟩ ?_
              repeat (first
                | (refine lex_skip rfl ?_; simp only [Act.put, List.setIfInBounds_toArray, List.set_cons_zero, List.set_cons_succ])
                | (refine lex_quiet rfl rfl rfl (fun K hK => ?_); unfold Reg; go_big_quiet_op; refine hK _ ?_; clear hK K)
                | (refine lex_rel rfl rfl (fun w' hb9 hK => ?_) (fun v w' hb9 hv => ?_)
                   · unfold grows
                     go_simp
                     go_at_call 9
                     exact call_isC (HW.out w')
                   obtain rfl := hv
                   simp only [Act.put, List.setIfInBounds_toArray, List.set_cons_zero, List.set_cons_succ]))
              refine lex_nil (fun w9 hC9 _ => ?_)
              have hb9 := reg_iff.1 hC9
              clear q1 q2
              go_wp2
              go_ret
              exact ⟨by rw [Hl.out, e.out]; rfl, hb.trans (hb9.mono hbs)⟩
            · have e : Hid (F = false) := hide (by rw [Hd2.out, f2]; simp)
              clear Hd2 f2 Hnx
              go_upto_region 4 with fail
              refine wp_region_grow [(15, isC (.bool true))] [15]
                (by kernel_rfl) (by kernel_rfl) rfl (by kernel_rfl) (by kernel_rfl) ⟨isC_stable _, trivial⟩ ?_
              repeat (first
                | (refine lex_skip rfl ?_; simp only [Act.put, List.setIfInBounds_toArray, List.set_cons_zero, List.set_cons_succ])
                | (refine lex_quiet rfl rfl rfl (fun K hK => ?_); unfold Reg; go_big_quiet_op; refine hK _ ?_; clear hK K)
                | (refine lex_rel rfl rfl (fun w' hb9 hK => ?_) (fun v w' hb9 hv => ?_)
                   · unfold grows
                     go_simp
                     go_at_call 9
                     exact call_isC (HW.out w')
                   obtain rfl := hv
                   simp only [Act.put, List.setIfInBounds_toArray, List.set_cons_zero, List.set_cons_succ]))
              refine lex_nil (fun w9 hC9 _ => ?_)
              have hb9 := reg_iff.1 hC9
              clear q1 q2
              go_wp2
              go_ret
              exact ⟨by rw [Hl.out, e.out]; rfl, hb.trans (hb9.mono hbs)⟩
            · have e : Hid (F = okD nm (l.drop (i + 1))) := hide (by rw [Hd2.out, f2]; rfl)
              clear Hd2 f2
              go_upto_region 4 with fail
              refine wp_region_grow [(15, isC (.bool true))] [15]
                (by kernel_rfl) (by kernel_rfl) rfl (by kernel_rfl) (by kernel_rfl) ⟨isC_stable _, trivial⟩ ?_
              repeat (first
                | (refine lex_skip rfl ?_; simp only [Act.put, List.setIfInBounds_toArray, List.set_cons_zero, List.set_cons_succ])
                | (refine lex_quiet rfl rfl rfl (fun K hK => ?_); unfold Reg; go_big_quiet_op; refine hK _ ?_; clear hK K)
                | (refine lex_rel rfl rfl (fun w' hb9 hK => ?_) (fun v w' hb9 hv => ?_)
                   · unfold grows
                     go_simp
                     go_at_call 9
                     exact call_isC (HW.out w')
                   obtain rfl := hv
                   simp only [Act.put, List.setIfInBounds_toArray, List.set_cons_zero, List.set_cons_succ]))
              refine lex_nil (fun w9 hC9 _ => ?_)
              have hb9 := reg_iff.1 hC9
              clear q1 q2
              go_wp2
              go_roundw
              case rel => exact ⟨i + 1, nm, by omega, by go_num, hide (fun h => by omega), Hnx, e, hb.trans (hb9.mono hbs)⟩
              case measure => simp [RowKit.intOf]; omega
    · have hi2 : i = n := by omega
      have e : Hid (F = true) := hide (by rw [hf.out, List.drop_of_length_le (by have := Hlen.out; omega)]; rfl)
      clear hf
      by_cases h6 : n ≤ 24
      · have h6z : (n : Int) ≤ 24 := by omega
        go_wp2
        go_ret
        exact ⟨by rw [Hl.out, e.out, decide_eq_true h6]; rfl, hb⟩
      · have h6z : ¬ (n : Int) ≤ 24 := by omega
        go_wp2
        go_ret
        exact ⟨by rw [Hl.out, e.out, decide_eq_false h6]; rfl, hb⟩
end Go.Proofs.Ytbagekkcakfhgaa.Depot
