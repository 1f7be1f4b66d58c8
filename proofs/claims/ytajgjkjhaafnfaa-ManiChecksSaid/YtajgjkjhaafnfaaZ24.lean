/-
  Some texts of this claim, one behind the other: ManiChecksW. What each proves, and its condition, stands at its head.
-/
import Derived.Test.YtajgjkjhaafnfaaZ12
import Derived.Test.YtajgjkjhaafnfaaZ14
import Derived.Test.YtajgjkjhaafnfaaZ16
import Derived.Test.YtajgjkjhaafnfaaZ18
import Derived.Test.YtajgjkjhaafnfaaZ23
/-
  The walk of ManiChecks. Condition: the slices read as releases; lengths as a row bounds them.
-/
namespace Go.Proofs.Ytajgjkjhaafnfaa.Mani
open Go Go.RowKit Go.Lib Go.Proofs.Ytajgjkjhaafnfaa.Span Go.Proofs.Ytajgjkjhaafnfaa.Need Go.Proofs.Ytajgjkjhaafnfaa.Grow
set_option linter.unusedVariables false
/-- The relation 'a manifest that reads so'. -/
def manR (nm : ByteArray) (n : Nat) (l : List Rl) : Rel := fun w v => ∃ A c, v = .agg #[.string nm, .slice A n c] ∧ RlOn w A n l
theorem manR_stable (nm : ByteArray) (n : Nat) (l : List Rl) : ∀ w w' v, Below w.heap.size w w' → manR nm n l w v → manR nm n l w' v :=
  fun _ _ _ hb ⟨A, c, hv, hI⟩ => ⟨A, c, hv, hI.on hb⟩
set_option maxHeartbeats 8000000 in
set_option maxRecDepth 100000 in
theorem checks_walk (a b : ByteArray) (la lb : List Rl) (A : Option Addr) (n c : Nat) (A' : Option Addr) (n' c' : Nat) (w : World) (h : RlOn w A n la) (h' : RlOn w A' n' lb)
    (ha : a.size ≤ maxLen) (hb : b.size ≤ maxLen) (hn : n ≤ maxLen) (hn' : n' ≤ maxLen) (hqa : ∀ q ∈ la, q.2.length ≤ maxLen) (hqb : ∀ q ∈ lb, q.2.length ≤ maxLen) :
    Calls Try.prog 3 #[.agg #[.string a, .slice A n c], .agg #[.string b, .slice A' n' c']] w (Tells w (.bool true)) := by
  have HL1 := hide (fun (wx : World) (hbx : Below w.heap.size w wx) => largeM_any a la A n c wx (h.on hbx) hqa hn ha)
  have HL2 := hide (fun (wx : World) (hbx : Below w.heap.size w wx) => largeM_any b lb A' n' c' wx (h'.on hbx) hqb hn' hb)
  have HW := hide (fun wx => awakeM_any wx)
  have h0 : Below w.heap.size w ((w.alloc (.cells #[.string a, .slice A n c] 24)).alloc (.cells #[.string b, .slice A' n' c'] 24)) := ((Below.refl _ _).alloc (Nat.le_refl _) _).alloc (by simp) _
  have b0 := (Blk.new w 24 #[.string a, .slice A n c]).alloc (.cells #[.string b, .slice A' n' c'] 24)
  have b1 := Blk.new (w.alloc (.cells #[.string a, .slice A n c] 24)) 24 #[.string b, .slice A' n' c']
  rw [World.size_alloc] at b1
  unfold Tells at *
  clear ha hb hn hn' hqa hqb
  cases g1 : largeM a la with
  | true =>
    rw [g1] at HL1
    clear h h' HL2 b0 b1
    go_enter Try.func3, Try.ntmps3
    go_wp2_with (first
      | (go_at_call 7
         refine (HW.out _).mono ?_
         rintro e w4 ⟨rfl, hb4⟩
         have hbw := hb3.trans (hb4.mono hb3.size))
      | (go_at_call 6
         refine (HL1.out _ h0).mono ?_
         rintro e w3 ⟨rfl, hb3'⟩
         have hb3 := h0.trans (hb3'.mono h0.size)))
    go_ret
    exact ⟨rfl, hbw⟩
  | false =>
    rw [g1] at HL1
    cases g2 : largeM b lb with
    | true =>
      rw [g2] at HL2
      clear h h' b0
      go_enter Try.func3, Try.ntmps3
      go_wp2_with (first
        | (go_at_call 7
           refine (HW.out _).mono ?_
           rintro e w5 ⟨rfl, hb5⟩
           have hbw := hb4.trans (hb5.mono hb4.size))
        | (go_at_call 6
           refine (HL2.out _ hb3).mono ?_
           rintro e w4 ⟨rfl, hb4'⟩
           have hb4 := hb3.trans (hb4'.mono hb3.size))
        | (go_at_call 6
           refine (HL1.out _ h0).mono ?_
           rintro e w3 ⟨rfl, hb3'⟩
           have hb3 := h0.trans (hb3'.mono h0.size)
           have d1 := b1.below hb3' b1.lt
           have e0 := d1.cell 0
           have e1 := d1.cell 1))
      go_ret
      exact ⟨rfl, hbw⟩
    | false =>
      rw [g2] at HL2
      obtain ⟨sa, fa⟩ := fineR_of g1
      obtain ⟨sb, fb⟩ := fineR_of g2
      have HC := hide (fun (wx : World) (hbx : Below w.heap.size w wx) => checkM_any a la A n c wx (h.on hbx) fa (by omega))
      have HRC := hide (fun (wx : World) (hbx : Below w.heap.size w wx) => refCheckM_any a la A n c wx (h.on hbx) fa (by omega))
      have HS := hide (fun (wx : World) (hbx : Below w.heap.size w wx) => sameM_any a b la lb A A' n c n' c' wx (h.on hbx) (h'.on hbx) fa fb)
      have HRS := hide (fun (wx : World) (hbx : Below w.heap.size w wx) => refSameM_any a b la lb A A' n c n' c' wx (h.on hbx) (h'.on hbx) fa fb)
      have HK := hide (fun (wx : World) (hbx : Below w.heap.size w wx) => cloneM_any a la A n c wx (h.on hbx) fa (by omega))
      have HRK : Hid (∀ wx A1 c1, Below w.heap.size w wx → RlOn wx A1 n la → Calls Try.prog 11 #[.agg #[.string a, .slice A1 n c1], .agg #[.string a, .slice A n c]] wx fun e w' => e = .returned (.bool true) ∧ Below wx.heap.size wx w') := hide (fun wx A1 c1 hbx h1 => by
        have := refSameM_any a a la la A1 A n c1 n c wx h1 (h.on hbx) fa fa
        rw [decide_eq_true (rfl : a = a), decide_eq_true (rfl : la = la)] at this
        exact this)
      unfold Tells at *
      clear h h' g1 g2
      generalize okM a la = k at *
      generalize (decide (a = b) && decide (la = lb)) = s at *
      have hk2 : (k == k) = true := beq_self_eq_true k
      have hs2 : (s == s) = true := beq_self_eq_true s
      go_enter Try.func3, Try.ntmps3
      go_upto_region 3 with (first
        | (go_at_call 6
           refine (HL2.out _ hb3).mono ?_
           rintro e w4 ⟨rfl, hb4'⟩
           have hb4 := hb3.trans (hb4'.mono hb3.size)
           have f0 := d0.below hb4' d0.lt
           have f1 := d1.below hb4' d1.lt)
        | (go_at_call 6
           refine (HL1.out _ h0).mono ?_
           rintro e w3 ⟨rfl, hb3'⟩
           have hb3 := h0.trans (hb3'.mono h0.size)
           have d0 := b0.below hb3' b0.lt
           have d1 := b1.below hb3' b1.lt
           have e0 := d1.cell 0
           have e1 := d1.cell 1))
      have hbs4 := hb4.size
      clear HL1 HL2 e0 e1 d0 d1 b0 b1
      have q1 := cell_reg_ ((f0.cell 0).trans rfl) f0.lt
      have q2 := cell_reg_ ((f0.cell 1).trans rfl) f0.lt
      have q3 := cell_reg_ ((f1.cell 0).trans rfl) f1.lt
      have q4 := cell_reg_ ((f1.cell 1).trans rfl) f1.lt
      have up := hide (fun (wx : World) (hx : Below w4.heap.size w4 wx) => hb4.trans (hx.mono hbs4))
      refine wp_region_grow [(13, isC (.bool k)), (15, isC (.bool k)), (20, isC (.bool s)), (23, isC (.bool s)), (28, manR a n la), (30, isC (.bool true)), (33, isC (.bool true))] [13, 15, 20, 23, 28, 30, 33]
        (by kernel_rfl) (by kernel_rfl) rfl (by kernel_rfl) (by kernel_rfl) ⟨isC_stable _, isC_stable _, isC_stable _, isC_stable _, manR_stable _ _ _, isC_stable _, isC_stable _, trivial⟩ ?_
      repeat (first
        | (refine lex_skip rfl ?_; simp only [Act.put, List.setIfInBounds_toArray, List.set_cons_zero, List.set_cons_succ])
        | (refine lex_quiet rfl rfl rfl (fun K hK => ?_); unfold Reg; go_big_quiet_op; refine hK _ ?_; clear hK K)
        | (refine lex_rel rfl rfl (fun w' hb9 hK => ?_) (fun v w' hb9 hv => ?_)
           · unfold grows
             go_simp
             go_at_call 12
             refine (HK.out w' (up.out _ hb9)).mono ?_
             rintro e w5' ⟨A5, c5, rfl, hI5, hb5⟩
             exact ⟨_, rfl, hb5, A5, c5, rfl, hI5⟩
           obtain ⟨A8, c8, rfl, hI8⟩ := hv
           simp only [Act.put, List.setIfInBounds_toArray, List.set_cons_zero, List.set_cons_succ])
        | (refine lex_rel rfl rfl (fun w' hb9 hK => ?_) (fun v w' hb9 hv => ?_)
           · unfold grows
             go_simp
             first
               | (go_at_call 8
                  exact call_isC (HC.out w' (up.out _ hb9)))
               | (go_at_call 9
                  exact call_isC (HRC.out w' (up.out _ hb9)))
               | (go_at_call 10
                  exact call_isC (HS.out w' (up.out _ hb9)))
               | (go_at_call_of 11 (Value.agg #[.string b, .slice A' n' c'])
                  exact call_isC (HRS.out w' (up.out _ hb9)))
               | (go_at_call 7
                  exact call_isC (HW.out w'))
           obtain rfl := hv
           simp only [Act.put, List.setIfInBounds_toArray, List.set_cons_zero, List.set_cons_succ])
        | (refine lex_rel rfl rfl (fun w' hb9 hK => ?_) (fun v w' hb9 hv => ?_)
           · obtain ⟨A9, c9, e9, hI9⟩ := hK.at_ 28 rfl rfl (agg_def2 _)
             have e10 : Value.agg #[.string a, .slice A8 n c8] = .agg #[.string a, .slice A9 n c9] := e9
             injection e10 with e10
             injection e10 with e10
             simp only [List.cons.injEq, Value.slice.injEq, and_true, true_and] at e10
             obtain ⟨rfl, rfl⟩ := e10
             unfold grows
             go_simp
             go_at_call 11
             exact call_isC (HRK.out w' _ _ (up.out _ hb9) hI9)
           obtain rfl := hv
           simp only [Act.put, List.setIfInBounds_toArray, List.set_cons_zero, List.set_cons_succ]))
      refine lex_nil (fun w9 hC9 _ => ?_)
      have hb9 := reg_iff.1 hC9
      have hbw := up.out _ hb9
      clear q1 q2 q3 q4 hC9
      go_wp2
      go_ret
      exact ⟨rfl, hbw⟩
end Go.Proofs.Ytajgjkjhaafnfaa.Mani
