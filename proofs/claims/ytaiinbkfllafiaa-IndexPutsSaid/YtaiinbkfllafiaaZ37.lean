/-
  Some texts of this claim, one behind the other: NeedRefSame, ManiRefSame. What each proves, and its condition, stands at its head.
-/
import Derived.Test.YtaiinbkfllafiaaZ16
import Derived.Test.YtaiinbkfllafiaaZ9
import Derived.Test.YtaiinbkfllafiaaZ15
import Derived.Test.YtaiinbkfllafiaaZ19
import Derived.Test.YtaiinbkfllafiaaZ31
/-
  Contracts of the document's Same and Check: whether needs are alike, which may be. Condition: the slices read as needs, of at most 1,000,000,001 spans each; names of at most 1,000,000,000 bytes.
-/
namespace Go.Proofs.Ytaiinbkfllafiaa.Need
open Go Go.RowKit Go.Lib Go.Proofs.Ytaiinbkfllafiaa.Span Go.Proofs.Ytaiinbkfllafiaa.Grow
open Go.Proofs.Ytaiinbkfllafiaa.Label (runes fitL refFit_any)
set_option linter.unusedVariables false
set_option maxHeartbeats 4000000 in
set_option maxRecDepth 100000 in
theorem refSameN_any (l m : List Nd) (A A' : Option Addr) (n c n' c' : Nat) (w : World) (h : NdOn w A n l) (h' : NdOn w A' n' m) (hl : Short l) (hm : Short m) (hn : n ≤ 140737488355328) :
    Calls Try.prog 32 #[.slice A n c, .slice A' n' c'] w fun e w' => e = .returned (.bool (decide (l = m))) ∧ Below w.heap.size w w' := by
  have h1 := h.len
  have h2 := h'.len
  obtain ⟨r, hr⟩ : ∃ r, r = decide (l = m) := ⟨_, rfl⟩
  rw [← hr]
  have Hr := hide hr
  clear hr
  by_cases hnn : n = n'
  · subst hnn
    have H1 := hide h1
    have H2 := hide h2
    clear h1 h2
    go_enter Try.func32, Try.ntmps32
    go_wp2
    go_loopw [5] (fun v wr => ∃ (i : Nat), i ≤ n ∧ v = .int .i64 (i : Int) ∧ Hid (l.take i = m.take i) ∧ Below w.heap.size w wr) (fun v _ => n - (RowKit.intOf v).toNat)
    case atStart => exact ⟨0, by omega, rfl, hide rfl, Below.refl _ _⟩
    case round =>
      obtain ⟨i, hi, rfl, hf, hb⟩ := hrel
      by_cases hlt : i < n
      · obtain ⟨ad, q, B1, m1, k1, rfl, hbl, hx, hs, c1, c2⟩ := NdIn.at_ (NdIn.below h hb) hlt
        obtain ⟨ad', q', B2, m2, k2, rfl, hbl', hx', hs', c1', c2'⟩ := NdIn.at_ (NdIn.below h' hb) hlt
        have hsn := hide (@alike_snoc l m i q q' hf.out hx hx')
        have hne := hide (@alike_ne l m i q q' hx hx')
        have hq1 := hl q (List.mem_of_getElem? hx)
        have hq2 := hm q' (List.mem_of_getElem? hx')
        obtain ⟨nm, s⟩ := q
        obtain ⟨nm', s'⟩ := q'
        simp only [] at c1 c2 c1' c2' hs hs' hq1 hq2 hsn hne
        have HC := hide (fun (j : Nat) => @refSame_any _ _ k1 _ _ k2 _ _ s s' (wr.drewN j) hs hs' (by have := hs.1; omega) (by have := hs'.1; omega) |>.mono (R' := fun e w'' => e = .returned (.bool (decide (s = s'))) ∧ ∃ m, w'' = wr.drewN m) fun _ _ ⟨he, j2, hw⟩ => ⟨he, _, hw.trans (World.drewN_drewN _ _ _)⟩)
        have hy : ((nm, s) : Nd) = (nm', s') ↔ (nm.toList == nm'.toList) = true ∧ decide (s = s') = true := by rw [eq_names]; simp
        have Hy := hide hy
        clear hx hx' hf hs hs' hq1 hq2 hy h h' hbl hbl'
        generalize decide (s = s') = b at *
        cases hnm : (nm.toList == nm'.toList)
        · have e := hne.out (fun e => by have := (Hy.out.1 e).1; rw [hnm] at this; cases this)
          have e2 : r = false := by rw [Hr.out]; exact e
          have E2 := hide e2
          clear e e2 Hy hsn hne
          go_upto_region 6 with fail
          go_quiet (fail)
          go_wp2
          go_ret
          exact ⟨by rw [E2.out]; rfl, by first | exact below_drewN hb _ | exact hb⟩
        · cases b
          · have e := hne.out (fun e => by have := (Hy.out.1 e).2; cases this)
            have e2 : r = false := by rw [Hr.out]; exact e
            have E2 := hide e2
            clear e e2 Hy hsn hne
            go_upto_region 6 with fail
            go_quiet (first | (go_at_call 46; exact HC.out _))
            go_wp2
            go_ret
            exact ⟨by rw [E2.out]; rfl, by first | exact below_drewN hb _ | exact hb⟩
          · have e := hsn.out (Hy.out.2 ⟨hnm, rfl⟩)
            have E := hide e
            clear e Hy hsn hne
            go_upto_region 6 with fail
            go_quiet (first | (go_at_call 46; exact HC.out _))
            go_wp2
            go_roundw
            case rel => exact ⟨i + 1, by omega, by go_num, E, by first | exact below_drewN hb _ | exact hb⟩
            case measure => simp [RowKit.intOf]; omega
      · have hi2 : i = n := by omega
        subst hi2
        have hq := hf.out
        rw [List.take_of_length_le (by rw [H1.out]; exact Nat.le_refl _), List.take_of_length_le (by rw [H2.out]; exact Nat.le_refl _)] at hq
        have e2 : r = true := by rw [Hr.out]; exact decide_eq_true hq
        have E2 := hide e2
        clear hf hq e2
        go_wp2
        go_ret
        exact ⟨by rw [E2.out]; rfl, by first | exact below_drewN hb _ | exact hb⟩
  · have e2 : r = false := by rw [Hr.out]; exact decide_eq_false fun e => hnn (by rw [← h1, ← h2, e])
    have E2 := hide e2
    clear e2 h1 h2
    go_enter Try.func32, Try.ntmps32
    go_wp2
    go_ret
    exact ⟨by rw [E2.out]; rfl, Below.refl _ _⟩
end Go.Proofs.Ytaiinbkfllafiaa.Need
/-
  Contract of the document's Same: whether manifests are alike. Condition: needs, names and sets of a length that may be walked.
-/
namespace Go.Proofs.Ytaiinbkfllafiaa.Mani
open Go Go.RowKit Go.Lib Go.Proofs.Ytaiinbkfllafiaa.Span Go.Proofs.Ytaiinbkfllafiaa.Need Go.Proofs.Ytaiinbkfllafiaa.Grow
set_option linter.unusedVariables false
set_option maxHeartbeats 4000000 in
set_option maxRecDepth 100000 in
theorem refSameM_any (a b : ByteArray) (l m : List Rl) (A A' : Option Addr) (n c n' c' : Nat) (w : World) (h : RlOn w A n l) (h' : RlOn w A' n' m) (hl : FineR l) (hm : FineR m) :
    Calls Try.prog 18 #[.agg #[.string a, .slice A n c], .agg #[.string b, .slice A' n' c']] w (Tells w (.bool (decide (a = b) && decide (l = m)))) := by
  unfold Tells
  have h1 := h.len
  have h2 := h'.len
  have hn : n ≤ 30 := by rw [← h1]; exact hl.1
  obtain ⟨r, hr⟩ : ∃ r, r = decide (l = m) := ⟨_, rfl⟩
  rw [← hr, ← eq_names]
  have Hr := hide hr
  clear hr
  have h0 : Below w.heap.size w ((w.alloc (.cells #[.string a, .slice A n c] 38)).alloc (.cells #[.string b, .slice A' n' c'] 38)) := ((Below.refl _ _).alloc (Nat.le_refl _) _).alloc (by simp) _
  have b0 := (Blk.new w 38 #[.string a, .slice A n c]).alloc (.cells #[.string b, .slice A' n' c'] 38)
  have b1 := Blk.new (w.alloc (.cells #[.string a, .slice A n c] 38)) 38 #[.string b, .slice A' n' c']
  rw [World.size_alloc] at b1
  cases f : (a.toList == b.toList)
  · clear h h' h1 h2
    go_enter Try.func18, Try.ntmps18
    go_wp2
    go_ret
    exact ⟨rfl, h0⟩
  · by_cases hnn : n = n'
    · subst hnn
      have H1 := hide h1
      have H2 := hide h2
      clear h1 h2
      go_enter Try.func18, Try.ntmps18
      go_wp2
      go_loopw [5] (fun v wr => ∃ (i : Nat), i ≤ n ∧ v = .int .i64 (i : Int) ∧ Hid (l.take i = m.take i) ∧ Blk wr w.heap.size 38 #[.string a, .slice A n c] ∧ Blk wr (w.heap.size + 1) 38 #[.string b, .slice A' n c'] ∧ Below w.heap.size w wr) (fun v _ => n - (RowKit.intOf v).toNat)
      case atStart => exact ⟨0, by omega, rfl, hide rfl, b0, b1, h0⟩
      case round =>
        obtain ⟨i, hi, rfl, hf, hk, hk', hb⟩ := hrel
        have hbs := hb.size
        have m1 := hk.cell 1
        have m2 := hk'.cell 1
        clear b0 b1 h0
        by_cases hlt : i < n
        · obtain ⟨ad, q, B1, m1', k1, rfl, hbl, hx, hs, c1, c2⟩ := RlIn.at_ (RlIn.below h hb) hlt
          obtain ⟨ad', q', B2, m2', k2, rfl, hbl', hx', hs', c1', c2'⟩ := RlIn.at_ (RlIn.below h' hb) hlt
          have hsn := hide (@alikeR_snoc l m i q q' hf.out hx hx')
          have hne := hide (@alikeR_ne l m i q q' hx hx')
          have hq1 := hl.2 q (List.mem_of_getElem? hx)
          have hq2 := hm.2 q' (List.mem_of_getElem? hx')
          obtain ⟨z, s⟩ := q
          obtain ⟨z', s'⟩ := q'
          simp only [] at c1 c2 c1' c2' hs hs' hq1 hq2 hsn hne
          have HC := hide (fun (wx : World) (hbx : Below wr.heap.size wr wx) => refSameN_any s s' B1 B2 m1' k1 m2' k2 wx (NdOn.on (hs.more hbs) hbx) (NdOn.on (hs'.more hbs) hbx) hq1.short hq2.short (by have := hq1.1; have := hs.len; omega))
          have Hy := hide (show z = z' → decide (s = s') = true → ((z, s) : Rl) = (z', s') from fun e1 e2 => by rw [e1, of_decide_eq_true e2])
          have Hn := hide (show decide (s = s') = false → ¬ ((z, s) : Rl) = (z', s') from fun e2 e => by injection e with e3 e4; rw [e4] at e2; simp at e2)
          have Hz := hide (show ¬ z = z' → ¬ ((z, s) : Rl) = (z', s') from fun e1 e => by injection e with e3 e4; exact e1 e3)
          have q1 := cell_reg_ (m1.trans rfl) hk.lt
          have q2 := cell_reg_ (m2.trans rfl) hk'.lt
          have q3 := cell_reg_ c1 (by rw [block_of_add]; omega)
          have q4 := cell_reg_ c2 (by simp only [block_of_add]; omega)
          have q5 := cell_reg_ c1' (by rw [block_of_add]; omega)
          have q6 := cell_reg_ c2' (by simp only [block_of_add]; omega)
          have hi1 : (0 : Int) ≤ (i : Int) := by omega
          have hi2 : (i : Int) < (n : Int) := by omega
          clear hx hx' hf hs hs' hq1 hq2 h h' hl hm c1 c2 c1' c2'
          generalize decide (s = s') = y at *
          by_cases hzz : z = z'
          · subst hzz
            cases y
            · have e2 : r = false := by rw [Hr.out]; exact hne.out (Hn.out (by first | rfl | trivial))
              have E2 := hide e2
              clear e2
              go_upto_region 6 with fail
              clear m1 m2
              refine wp_region_grow [(53, isC (.bool false))] [53]
                (by kernel_rfl) (by kernel_rfl) rfl (by kernel_rfl) (by kernel_rfl) ⟨isC_stable _, trivial⟩ ?_
              repeat (first
                | (refine lex_skip rfl ?_; simp only [Act.put, List.setIfInBounds_toArray, List.set_cons_zero, List.set_cons_succ])
                | (refine lex_quiet rfl rfl rfl (fun K hK => ?_); unfold Reg; go_big_quiet_op; refine hK _ ?_; clear hK K)
                | (refine lex_rel rfl rfl (fun w' hb9 hK => ?_) (fun v w' hb9 hv => ?_)
                   · unfold grows
                     go_simp
                     first
                       | (go_at_call 32
                          exact call_isC (HC.out w' hb9))
                   obtain rfl := hv
                   simp only [Act.put, List.setIfInBounds_toArray, List.set_cons_zero, List.set_cons_succ]))
              refine lex_nil (fun w9 hC9 _ => ?_)
              have hb9 := reg_iff.1 hC9
              clear hC9
              clear q1 q2 q3 q4 q5 q6
              go_wp2
              go_ret
              exact ⟨by rw [E2.out]; rfl, hb.trans (hb9.mono hbs)⟩
            · have E := hide (hsn.out (Hy.out rfl (by first | rfl | trivial)))
              go_upto_region 6 with fail
              clear m1 m2
              refine wp_region_grow [(53, isC (.bool true))] [53]
                (by kernel_rfl) (by kernel_rfl) rfl (by kernel_rfl) (by kernel_rfl) ⟨isC_stable _, trivial⟩ ?_
              repeat (first
                | (refine lex_skip rfl ?_; simp only [Act.put, List.setIfInBounds_toArray, List.set_cons_zero, List.set_cons_succ])
                | (refine lex_quiet rfl rfl rfl (fun K hK => ?_); unfold Reg; go_big_quiet_op; refine hK _ ?_; clear hK K)
                | (refine lex_rel rfl rfl (fun w' hb9 hK => ?_) (fun v w' hb9 hv => ?_)
                   · unfold grows
                     go_simp
                     first
                       | (go_at_call 32
                          exact call_isC (HC.out w' hb9))
                   obtain rfl := hv
                   simp only [Act.put, List.setIfInBounds_toArray, List.set_cons_zero, List.set_cons_succ]))
              refine lex_nil (fun w9 hC9 _ => ?_)
              have hb9 := reg_iff.1 hC9
              clear hC9
              clear q1 q2 q3 q4 q5 q6
              have hk9 := hk.below hb9 hk.lt
              have hk9' := hk'.below hb9 hk'.lt
              go_wp2
              go_roundw
              case rel => exact ⟨i + 1, by omega, by go_num, E, hk9, hk9', hb.trans (hb9.mono hbs)⟩
              case measure => simp [RowKit.intOf]; omega
          · have e2 : r = false := by rw [Hr.out]; exact hne.out (Hz.out hzz)
            have E2 := hide e2
            have hz2 : (z == z') = false := beq_eq_false_iff_ne.2 hzz
            have hz3 : (z != z') = true := bne_iff_ne.2 hzz
            clear e2
            go_upto_region 6 with fail
            clear m1 m2
            refine wp_region_grow [(53, isC (.bool true))] [53]
              (by kernel_rfl) (by kernel_rfl) rfl (by kernel_rfl) (by kernel_rfl) ⟨isC_stable _, trivial⟩ ?_
            repeat (first
              | (refine lex_skip rfl ?_; simp only [Act.put, List.setIfInBounds_toArray, List.set_cons_zero, List.set_cons_succ])
              | (refine lex_quiet rfl rfl rfl (fun K hK => ?_); unfold Reg; go_big_quiet_op; refine hK _ ?_; clear hK K)
              | (refine lex_rel rfl rfl (fun w' hb9 hK => ?_) (fun v w' hb9 hv => ?_)
                 · unfold grows
                   go_simp
                   first
                     | (go_at_call 32
                        exact call_isC (HC.out w' hb9))
                 obtain rfl := hv
                 simp only [Act.put, List.setIfInBounds_toArray, List.set_cons_zero, List.set_cons_succ]))
            refine lex_nil (fun w9 hC9 _ => ?_)
            have hb9 := reg_iff.1 hC9
            clear hC9
            clear q1 q2 q3 q4 q5 q6
            go_wp2
            go_ret
            exact ⟨by rw [E2.out]; rfl, hb.trans (hb9.mono hbs)⟩
        · have hi2 : i = n := by omega
          subst hi2
          have hq := hf.out
          rw [List.take_of_length_le (by rw [H1.out]; exact Nat.le_refl _), List.take_of_length_le (by rw [H2.out]; exact Nat.le_refl _)] at hq
          have e2 : r = true := by rw [Hr.out]; exact decide_eq_true hq
          have E2 := hide e2
          clear hf hq e2
          go_wp2
          go_ret
          exact ⟨by rw [E2.out]; rfl, hb⟩
    · have e2 : r = false := by rw [Hr.out]; exact decide_eq_false fun e => hnn (by rw [← h1, ← h2, e])
      have E2 := hide e2
      have hnz : ¬ (n : Int) = (n' : Int) := by omega
      clear e2 h1 h2 h h'
      go_enter Try.func18, Try.ntmps18
      go_wp2
      go_ret
      exact ⟨by rw [E2.out]; rfl, h0⟩
end Go.Proofs.Ytaiinbkfllafiaa.Mani
