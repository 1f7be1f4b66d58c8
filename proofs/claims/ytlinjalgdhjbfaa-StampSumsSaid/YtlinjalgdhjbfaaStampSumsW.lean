/-
  The walk of the law StampSums: it returns true, and leaves all memory that was there as it was. No condition.
-/
import Derived.Test.YtlinjalgdhjbfaaStampAwake
import Derived.Test.YtlinjalgdhjbfaaGrowWords
namespace Go.Proofs.Ytlinjalgdhjbfaa.Stamp
open Go.RowKit Go.Proofs.Ytlinjalgdhjbfaa.Grow
set_option linter.unusedVariables false
theorem sums_skip (A0 : Option Addr) (n0 c0 : Nat) (w : World) (h : 5000 < n0) :
    Calls Try.prog 3 #[.slice A0 n0 c0] w fun e w' => e = .returned (.bool true) ∧ Below w.heap.size w w' := by
  go_enter Try.func3, Try.ntmps3
  go_wp2_with (first
    | (go_at_call 6
       refine (awake_any _).mono ?_
       rintro e w3 ⟨rfl, hb3⟩))
  go_ret
  exact ⟨rfl, hb3⟩
set_option maxHeartbeats 1600000 in
set_option maxRecDepth 100000 in
theorem sums_yes (A0 : Option Addr) (m c0 : Nat) (l0 : List UInt8) (w : World) (h0 : m + 4 ≤ 5000) (hc : m + 4 ≤ c0)
    (hr0 : Reads w w.heap.size 1 A0 (m + 4) (bcs l0)) (ho : opens l0) :
    Calls Try.prog 3 #[.slice A0 (m + 4) c0] w fun e w' => e = .returned (.bool true) ∧ Below w.heap.size w w' := by
  have hln : l0.length = m + 4 := by have := hr0.1; rw [bcs_length] at this; omega
  have hcv0 := conv_of (c := c0) hr0
  have hst := str_toList
  have Hln := hide hln
  have Ho := hide ho
  have hs0 := sum_lt l0
  clear hln ho
  go_enter Try.func3, Try.ntmps3
  go_upto_region 5 with (first
    | (go_at_call 7
       refine (open_yes A0 m c0 l0 w (by omega) hc hr0 Ho.out).mono ?_
       rintro e w1 ⟨A1, c1, rfl, hn1, hb1⟩
       have hcv1 := conv_of (c := c0) (hr0.below hb1))
    | (go_at_call 8
       refine (refOpen_yes l0 m w1 Hln.out (by omega) Ho.out).mono ?_
       rintro e w2 ⟨rfl, hb2⟩
       have hb2' : Below w.heap.size w w2 := hb1.trans (hb2.mono hb1.size)
       have hr2 := (hr0.below hb2').more hb2'.size
       have hr3 := ((hn1.below hb2).2.2.2)
       have hcr0 := conv_reg (c := c0) hr2
       have hcr1 := conv_reg (c := c1) hr3))
  clear hcv0 hcv1
  refine wp_region_grow [(23, isC (.int .u32 (sum l0 : Nat))), (26, isC (.int .i64 (sum l0 : Nat))), (31, isB w.heap.size (seal_ l0)), (35, isC (.string (str (seal_ l0)))), (50, isC (.bool true))] [23, 26, 31, 35, 50]
    (by kernel_rfl) (by kernel_rfl) rfl (by kernel_rfl) (by kernel_rfl) ⟨isC_stable _, isC_stable _, isB_stable _ _, isC_stable _, isC_stable _, trivial⟩ ?_
  repeat (first
    | (refine lex_skip rfl ?_; simp only [Act.put, List.setIfInBounds_toArray, List.set_cons_zero, List.set_cons_succ])
    | (refine lex_quiet rfl rfl rfl (fun K hK => ?_); unfold Reg; go_big_quiet_op; refine hK _ ?_; clear hK K)
    | (refine lex_convB rfl rfl rfl rfl rfl rfl ?_; simp only [Act.put, List.setIfInBounds_toArray, List.set_cons_zero, List.set_cons_succ])
    | (refine lex_rel rfl rfl (fun w' hb hK => ?_) (fun v w' hb hv => ?_)
       · unfold grows
         go_simp
         first
           | (go_at_call 9
              exact call_isC_same (sum_of A0 (m + 4) c0 l0 w' _ (by omega) (hr2.below hb)))
           | (go_at_call 10
              exact call_isC_same (refOf_any l0 w' (by rw [Hln.out]; omega)))
           | (go_at_call 11
              exact (seal_any A0 (m + 4) c0 l0 w' (by omega) ((hr2.below hb).more hb.size)).mono fun _ _ ⟨A, n, c, he, hn, hb1⟩ => ⟨_, he, hb1, A, n, c, rfl, hn.less (Nat.le_trans hb2'.size hb.size)⟩)
           | (go_at_call 12
              exact call_isC (refSeal_any l0 w' (by rw [Hln.out]; omega)))
           | (go_at_call 6
              exact call_isC (awake_any w'))
       first
         | (obtain rfl := hv
            simp only [Act.put, List.setIfInBounds_toArray, List.set_cons_zero, List.set_cons_succ])
         | (obtain ⟨A3, n3, c3, rfl, hn3⟩ := hv
            simp only [Act.put, List.setIfInBounds_toArray, List.set_cons_zero, List.set_cons_succ])))
  refine lex_nil (fun w9 hC9 _ => ?_)
  have hb9 := reg_iff.1 hC9
  go_wp2
  go_ret
  exact ⟨rfl, hb2'.trans (hb9.mono hb2'.size)⟩
set_option maxHeartbeats 1600000 in
set_option maxRecDepth 100000 in
theorem sums_no (A0 : Option Addr) (n0 c0 : Nat) (l0 : List UInt8) (w : World) (h0 : n0 ≤ 5000) (hc : n0 ≤ c0)
    (hr0 : Reads w w.heap.size 1 A0 n0 (bcs l0)) (ho : ¬ opens l0) :
    Calls Try.prog 3 #[.slice A0 n0 c0] w fun e w' => e = .returned (.bool true) ∧ Below w.heap.size w w' := by
  have hln : l0.length = n0 := by have := hr0.1; rw [bcs_length] at this; omega
  have hcv0 := conv_of (c := c0) hr0
  have hst := str_toList
  have Hln := hide hln
  have Ho := hide ho
  have hs0 := sum_lt l0
  clear hln ho
  go_enter Try.func3, Try.ntmps3
  go_upto_region 5 with (first
    | (go_at_call 7
       refine (open_none A0 n0 c0 l0 w (by omega) hc hr0 Ho.out).mono ?_
       rintro e w1 ⟨rfl, nd, rfl⟩
       have hb1 : Below w.heap.size w (w.drewN nd) := below_drewN (Below.refl _ _) nd
       have hcv1 := conv_of (c := c0) (hr0.below hb1))
    | (go_at_call 8
       refine (refOpen_no l0 _ (by rw [Hln.out]; omega) Ho.out).mono ?_
       rintro e w2 ⟨rfl, hb2⟩
       have hb2' : Below w.heap.size w w2 := hb1.trans (hb2.mono hb1.size)
       have hr2 := (hr0.below hb2').more hb2'.size
       have hcr0 := conv_reg (c := c0) hr2
       have hcr1 := conv_reg (w := w2) (A := none) (n := 0) (c := 0) (l := []) Reads.none_))
  clear hcv0 hcv1
  refine wp_region_grow [(23, isC (.int .u32 (sum l0 : Nat))), (26, isC (.int .i64 (sum l0 : Nat))), (31, isB w.heap.size (seal_ l0)), (35, isC (.string (str (seal_ l0)))), (50, isC (.bool true))] [23, 26, 31, 35, 50]
    (by kernel_rfl) (by kernel_rfl) rfl (by kernel_rfl) (by kernel_rfl) ⟨isC_stable _, isC_stable _, isB_stable _ _, isC_stable _, isC_stable _, trivial⟩ ?_
  repeat (first
    | (refine lex_skip rfl ?_; simp only [Act.put, List.setIfInBounds_toArray, List.set_cons_zero, List.set_cons_succ])
    | (refine lex_quiet rfl rfl rfl (fun K hK => ?_); unfold Reg; go_big_quiet_op; refine hK _ ?_; clear hK K)
    | (refine lex_convB rfl rfl rfl rfl rfl rfl ?_; simp only [Act.put, List.setIfInBounds_toArray, List.set_cons_zero, List.set_cons_succ])
    | (refine lex_rel rfl rfl (fun w' hb hK => ?_) (fun v w' hb hv => ?_)
       · unfold grows
         go_simp
         first
           | (go_at_call 9
              exact call_isC_same (sum_of A0 n0 c0 l0 w' _ (by omega) (hr2.below hb)))
           | (go_at_call 10
              exact call_isC_same (refOf_any l0 w' (by rw [Hln.out]; omega)))
           | (go_at_call 11
              exact (seal_any A0 n0 c0 l0 w' (by omega) ((hr2.below hb).more hb.size)).mono fun _ _ ⟨A, n, c, he, hn, hb1⟩ => ⟨_, he, hb1, A, n, c, rfl, hn.less (Nat.le_trans hb2'.size hb.size)⟩)
           | (go_at_call 12
              exact call_isC (refSeal_any l0 w' (by rw [Hln.out]; omega)))
           | (go_at_call 6
              exact call_isC (awake_any w'))
       first
         | (obtain rfl := hv
            simp only [Act.put, List.setIfInBounds_toArray, List.set_cons_zero, List.set_cons_succ])
         | (obtain ⟨A3, n3, c3, rfl, hn3⟩ := hv
            simp only [Act.put, List.setIfInBounds_toArray, List.set_cons_zero, List.set_cons_succ])))
  refine lex_nil (fun w9 hC9 _ => ?_)
  have hb9 := reg_iff.1 hC9
  go_wp2
  go_ret
  exact ⟨rfl, hb2'.trans (hb9.mono hb2'.size)⟩
end Go.Proofs.Ytlinjalgdhjbfaa.Stamp
