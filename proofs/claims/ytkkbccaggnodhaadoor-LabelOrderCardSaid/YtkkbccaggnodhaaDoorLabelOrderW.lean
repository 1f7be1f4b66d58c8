/-
  The walk of the law LabelOrder: it returns true, and leaves all memory that was there as it was. Condition: the two tables of the library hold what its text lays in them.
-/
import Derived.Test.YtkkbccaggnodhaaDoorLabelOrderM
import Derived.Test.YtkkbccaggnodhaaDoorLabelAwake
namespace Go.Proofs.YtkkbccaggnodhaaDoor.Label
open Go.RowKit Go.Lib Go.Proofs.YtkkbccaggnodhaaDoor.Grow
set_option linter.unusedVariables false
set_option maxRecDepth 100000 in
theorem order_skip (a b : ByteArray) (n : Int) (w : World) (h : ¬ (fitL (runes a 0) = true ∧ fitL (runes b 0) = true)) (ha : a.size ≤ 9223372036854775807) (hb : b.size ≤ 9223372036854775807) :
    Calls Tryd.prog 4 #[.string a, .string b, .int .i64 n] w fun e w' => e = .returned (.bool true) ∧ Below w.heap.size w w' := by
  have HA := hide awake_any
  have H1 := hide (fun wx => fit_any a wx ha)
  have H2 := hide (fun wx => fit_any b wx hb)
  by_cases h1 : fitL (runes a 0) = true
  · have h2 : fitL (runes b 0) = false := by
      cases g : fitL (runes b 0) with
      | false => rfl
      | true => exact absurd ⟨h1, g⟩ h
    rw [h1] at H1
    rw [h2] at H2
    clear h h1 h2
    go_enter Tryd.func4, Tryd.ntmps4
    go_wp2_with (first
      | (go_at_call 8
         refine (H2.out w1).mono ?_
         rintro e w2 ⟨rfl, hb2⟩
         have c2 : Below w.heap.size w w2 := c1.trans (hb2.mono c1.size))
      | (go_at_call 8
         refine (H1.out w).mono ?_
         rintro e w1 ⟨rfl, c1⟩)
      | (go_at_call 5
         refine (HA.out w2).mono ?_
         rintro e w3 ⟨rfl, hb3⟩))
    go_ret
    exact ⟨rfl, c2.trans (hb3.mono c2.size)⟩
  · have h1' : fitL (runes a 0) = false := by simpa using h1
    rw [h1'] at H1
    clear h h1 h1' H2
    go_enter Tryd.func4, Tryd.ntmps4
    go_wp2_with (first
      | (go_at_call 8
         refine (H1.out w).mono ?_
         rintro e w1 ⟨rfl, c1⟩)
      | (go_at_call 5
         refine (HA.out w1).mono ?_
         rintro e w3 ⟨rfl, hb3⟩))
    go_ret
    exact ⟨rfl, c1.trans (hb3.mono c1.size)⟩
theorem run_gtr (a b : ByteArray) (G : Bool) (h : (Op.bytesLess a.toList b.toList || a.toList == b.toList) = !G) (w : World) : (binOp .gtr 9 (.string a) (.string b)).run Tryd.prog w = .ok (.bool G) w := by
  simp only [binOp, Op.stringOp, h, Bool.not_not, Sem.run_pure]
theorem after_alloc {w w3 w4 : World} {o : Obj} (c3 : Below w.heap.size w w3) (h : Below (w3.alloc o).heap.size (w3.alloc o) w4) : Below w.heap.size w w4 :=
  (c3.alloc c3.size o).trans (h.mono (by have := c3.size; simp; omega))
theorem blk_after {w3 w4 : World} {cs : Array Value} {t : TypeId} (h : Below (w3.alloc (.cells cs t)).heap.size (w3.alloc (.cells cs t)) w4) : Blk w4 w3.heap.size t cs :=
  (Blk.new w3 t cs).below h (by simp)
theorem cell_reg {w : World} {g : Nat} {t : TypeId} {cs : Array Value} (h : Blk w g t cs) (i : Nat) (v : Value) (hv : cs[i]? = some v) (d : Nat) (os : Array Obj) : (Sort.grow (redrawn w d) os).cell? ⟨g, i, none⟩ = some v :=
  ((below_regrown w d os).cell h.lt).trans ((h.cell i).trans hv)
set_option maxHeartbeats 4000000 in
set_option maxRecDepth 100000 in
theorem order_lt (a b : ByteArray) (n : Int) (w : World) (ha : fitL (runes a 0) = true) (hb : fitL (runes b 0) = true) (hT : Tabs w) (hn1 : -9223372036854775808 ≤ n) (hn2 : n ≤ 9223372036854775807)
    (hC : cmpL (runes a 0) (runes b 0) = -1) (hL : Op.bytesLess a.toList b.toList = true) (hG : (Op.bytesLess a.toList b.toList || a.toList == b.toList) = !false) :
    Calls Tryd.prog 4 #[.string a, .string b, .int .i64 n] w fun e w' => e = .returned (.bool true) ∧ Below w.heap.size w w' := by
  have hsa := fit_small a ha
  have hsb := fit_small b hb
  have HA := hide awake_any
  have H1 := hide (fun wx => fit_any a wx (by omega))
  have H2 := hide (fun wx => fit_any b wx (by omega))
  rw [ha] at H1
  rw [hb] at H2
  have HM := hide (fun wx => marks_any a wx (by omega))
  have HZ := hide (fun wx => size_any a wx (by omega))
  have HX := hide (fun wx h => compare_any a b wx (by omega) (by omega) h)
  rw [hC] at HX
  have hgt := run_gtr a b false hG
  have HT := hide hT
  have hsum := marks_all (runes a 0) (fit_kind _ ha)
  have hlen := runes_len a 0 (by omega)
  have hcs := clip_size a n
  have HK := hide (fun wx => clip_any a n wx (by omega) hn1 hn2)
  unfold four at HM
  clear hT hC hG hb
  by_cases hn : 1 ≤ n
  · have H3 := hide (fun wx => fit_any (clipS a n) wx (by omega))
    rw [clip_fit a n ha hn] at H3
    have HY := hide (fun wx h => compare_any (clipS a n) a wx (by omega) (by omega) h)
    have hlow := clip_low a n ha
    have hrange := cmpL_range (runes (clipS a n) 0) (runes a 0)
    generalize cmpL (runes (clipS a n) 0) (runes a 0) = D at *
    generalize marks (runes a 0) 0 = m0 at *
    generalize marks (runes a 0) 1 = m1 at *
    generalize marks (runes a 0) 2 = m2 at *
    generalize marks (runes a 0) 3 = m3 at *
    generalize (runes a 0).length = l at *
    clear ha
    generalize clipS a n = c at *
    have hd1 : -1 ≤ D := by omega
    have hd2 : D ≤ 0 := hlow
    clear hlow hrange
    go_enter Tryd.func4, Tryd.ntmps4
    go_upto_region 12 with (first
      | (go_at_call 8
         refine (H3.out w4).mono ?_
         rintro e w5 ⟨rfl, hb5⟩)
      | (go_at_call 8
         refine (H2.out w1).mono ?_
         rintro e w2 ⟨rfl, hb2⟩
         have c2 : Below w.heap.size w w2 := c1.trans (hb2.mono c1.size))
      | (go_at_call 8
         refine (H1.out w).mono ?_
         rintro e w1 ⟨rfl, c1⟩)
      | (go_at_call 9
         refine (HM.out w2).mono ?_
         rintro e w3 ⟨rfl, hb3⟩
         have c3 : Below w.heap.size w w3 := c2.trans (hb3.mono c2.size))
      | (go_at_call 10
         refine (HK.out _).mono ?_
         rintro e w4 ⟨rfl, hb4⟩
         have c4 := after_alloc c3 hb4
         have hblk4 := blk_after hb4)
      | (go_at_call 6
         refine (HY.out w5 (HT.out.below (c4.trans (hb5.mono c4.size)))).mono ?_
         rintro e w6 ⟨rfl, hb6⟩))
    have hblk := (hblk4.below hb5 hblk4.lt).below hb6 (Nat.lt_of_lt_of_le hblk4.lt hb5.size)
    have cR : Below w.heap.size w w6 := (c4.trans (hb5.mono c4.size)).trans (hb6.mono (Nat.le_trans c4.size hb5.size))
    clear hblk4 hb4 hb5 hb6 c4 c3 c2 c1 hb2 hb3 HY H1 H2 H3 HK HM
    have hbe : (((m0 : Int) + (m1 : Int) + (m2 : Int) + (m3 : Int)) == (l : Int)) = true := by rw [beq_iff_eq]; omega
    have hq0 := cell_reg hblk 0 _ rfl
    have hq1 := cell_reg hblk 1 _ rfl
    have hq2 := cell_reg hblk 2 _ rfl
    have hq3 := cell_reg hblk 3 _ rfl
    refine wp_region_grow [(45, isC (.int .i64 (-1))), (61, isC (.int .i64 (l : Nat))), (73, isC (.bool true))] [45, 61, 73]
      (by kernel_rfl) (by kernel_rfl) rfl (by kernel_rfl) (by kernel_rfl) ⟨isC_stable _, isC_stable _, isC_stable _, trivial⟩ ?_
    repeat (first
      | (refine lex_skip rfl ?_; simp only [Act.put, List.setIfInBounds_toArray, List.set_cons_zero, List.set_cons_succ])
      | (refine lex_quiet rfl rfl rfl (fun K hK => ?_); unfold Reg; go_big_quiet_op; refine hK _ ?_; clear hK K)
      | (refine lex_rel rfl rfl (fun w' hb hK => ?_) (fun v w' hb hv => ?_)
         · unfold grows
           go_simp
           first
             | (go_at_call 6
                exact call_isC (HX.out w' (HT.out.below (cR.trans (hb.mono cR.size)))))
             | (go_at_call 11
                exact call_isC (HZ.out w'))
             | (go_at_call 5
                exact call_isC (HA.out w'))
         obtain rfl := hv
         simp only [Act.put, List.setIfInBounds_toArray, List.set_cons_zero, List.set_cons_succ]))
    refine lex_nil (fun w9 hC9 _ => ?_)
    have hb9 := reg_iff.1 hC9
    go_wp2
    go_ret
    exact ⟨rfl, cR.trans (hb9.mono cR.size)⟩
  · rw [clip_none a n (by omega)] at HK
    generalize marks (runes a 0) 0 = m0 at *
    generalize marks (runes a 0) 1 = m1 at *
    generalize marks (runes a 0) 2 = m2 at *
    generalize marks (runes a 0) 3 = m3 at *
    generalize (runes a 0).length = l at *
    clear ha hcs
    go_enter Tryd.func4, Tryd.ntmps4
    go_upto_region 12 with (first
      | (go_at_call 8
         refine (H2.out w1).mono ?_
         rintro e w2 ⟨rfl, hb2⟩
         have c2 : Below w.heap.size w w2 := c1.trans (hb2.mono c1.size))
      | (go_at_call 8
         refine (H1.out w).mono ?_
         rintro e w1 ⟨rfl, c1⟩)
      | (go_at_call 9
         refine (HM.out w2).mono ?_
         rintro e w3 ⟨rfl, hb3⟩
         have c3 : Below w.heap.size w w3 := c2.trans (hb3.mono c2.size))
      | (go_at_call 10
         refine (HK.out _).mono ?_
         rintro e w4 ⟨rfl, hb4⟩
         have cR := after_alloc c3 hb4
         have hblk := blk_after hb4))
    clear hb4 c3 c2 c1 hb2 hb3 H1 H2 HK HM
    have hbe : (((m0 : Int) + (m1 : Int) + (m2 : Int) + (m3 : Int)) == (l : Int)) = true := by rw [beq_iff_eq]; omega
    have hq0 := cell_reg hblk 0 _ rfl
    have hq1 := cell_reg hblk 1 _ rfl
    have hq2 := cell_reg hblk 2 _ rfl
    have hq3 := cell_reg hblk 3 _ rfl
    refine wp_region_grow [(45, isC (.int .i64 (-1))), (61, isC (.int .i64 (l : Nat))), (73, isC (.bool true))] [45, 61, 73]
      (by kernel_rfl) (by kernel_rfl) rfl (by kernel_rfl) (by kernel_rfl) ⟨isC_stable _, isC_stable _, isC_stable _, trivial⟩ ?_
    repeat (first
      | (refine lex_skip rfl ?_; simp only [Act.put, List.setIfInBounds_toArray, List.set_cons_zero, List.set_cons_succ])
      | (refine lex_quiet rfl rfl rfl (fun K hK => ?_); unfold Reg; go_big_quiet_op; refine hK _ ?_; clear hK K)
      | (refine lex_rel rfl rfl (fun w' hb hK => ?_) (fun v w' hb hv => ?_)
         · unfold grows
           go_simp
           first
             | (go_at_call 6
                exact call_isC (HX.out w' (HT.out.below (cR.trans (hb.mono cR.size)))))
             | (go_at_call 11
                exact call_isC (HZ.out w'))
             | (go_at_call 5
                exact call_isC (HA.out w'))
         obtain rfl := hv
         simp only [Act.put, List.setIfInBounds_toArray, List.set_cons_zero, List.set_cons_succ]))
    refine lex_nil (fun w9 hC9 _ => ?_)
    have hb9 := reg_iff.1 hC9
    go_wp2
    go_ret
    exact ⟨rfl, cR.trans (hb9.mono cR.size)⟩
set_option maxHeartbeats 4000000 in
set_option maxRecDepth 100000 in
theorem order_eq (a b : ByteArray) (n : Int) (w : World) (ha : fitL (runes a 0) = true) (hb : fitL (runes b 0) = true) (hT : Tabs w) (hn1 : -9223372036854775808 ≤ n) (hn2 : n ≤ 9223372036854775807)
    (hC : cmpL (runes a 0) (runes b 0) = 0) (hL : Op.bytesLess a.toList b.toList = false) (hG : (Op.bytesLess a.toList b.toList || a.toList == b.toList) = !false) :
    Calls Tryd.prog 4 #[.string a, .string b, .int .i64 n] w fun e w' => e = .returned (.bool true) ∧ Below w.heap.size w w' := by
  have hsa := fit_small a ha
  have hsb := fit_small b hb
  have HA := hide awake_any
  have H1 := hide (fun wx => fit_any a wx (by omega))
  have H2 := hide (fun wx => fit_any b wx (by omega))
  rw [ha] at H1
  rw [hb] at H2
  have HM := hide (fun wx => marks_any a wx (by omega))
  have HZ := hide (fun wx => size_any a wx (by omega))
  have HX := hide (fun wx h => compare_any a b wx (by omega) (by omega) h)
  rw [hC] at HX
  have hgt := run_gtr a b false hG
  have HT := hide hT
  have hsum := marks_all (runes a 0) (fit_kind _ ha)
  have hlen := runes_len a 0 (by omega)
  have hcs := clip_size a n
  have HK := hide (fun wx => clip_any a n wx (by omega) hn1 hn2)
  unfold four at HM
  clear hT hC hG hb
  by_cases hn : 1 ≤ n
  · have H3 := hide (fun wx => fit_any (clipS a n) wx (by omega))
    rw [clip_fit a n ha hn] at H3
    have HY := hide (fun wx h => compare_any (clipS a n) a wx (by omega) (by omega) h)
    have hlow := clip_low a n ha
    have hrange := cmpL_range (runes (clipS a n) 0) (runes a 0)
    generalize cmpL (runes (clipS a n) 0) (runes a 0) = D at *
    generalize marks (runes a 0) 0 = m0 at *
    generalize marks (runes a 0) 1 = m1 at *
    generalize marks (runes a 0) 2 = m2 at *
    generalize marks (runes a 0) 3 = m3 at *
    generalize (runes a 0).length = l at *
    clear ha
    generalize clipS a n = c at *
    have hd1 : -1 ≤ D := by omega
    have hd2 : D ≤ 0 := hlow
    clear hlow hrange
    go_enter Tryd.func4, Tryd.ntmps4
    go_upto_region 12 with (first
      | (go_at_call 8
         refine (H3.out w4).mono ?_
         rintro e w5 ⟨rfl, hb5⟩)
      | (go_at_call 8
         refine (H2.out w1).mono ?_
         rintro e w2 ⟨rfl, hb2⟩
         have c2 : Below w.heap.size w w2 := c1.trans (hb2.mono c1.size))
      | (go_at_call 8
         refine (H1.out w).mono ?_
         rintro e w1 ⟨rfl, c1⟩)
      | (go_at_call 9
         refine (HM.out w2).mono ?_
         rintro e w3 ⟨rfl, hb3⟩
         have c3 : Below w.heap.size w w3 := c2.trans (hb3.mono c2.size))
      | (go_at_call 10
         refine (HK.out _).mono ?_
         rintro e w4 ⟨rfl, hb4⟩
         have c4 := after_alloc c3 hb4
         have hblk4 := blk_after hb4)
      | (go_at_call 6
         refine (HY.out w5 (HT.out.below (c4.trans (hb5.mono c4.size)))).mono ?_
         rintro e w6 ⟨rfl, hb6⟩))
    have hblk := (hblk4.below hb5 hblk4.lt).below hb6 (Nat.lt_of_lt_of_le hblk4.lt hb5.size)
    have cR : Below w.heap.size w w6 := (c4.trans (hb5.mono c4.size)).trans (hb6.mono (Nat.le_trans c4.size hb5.size))
    clear hblk4 hb4 hb5 hb6 c4 c3 c2 c1 hb2 hb3 HY H1 H2 H3 HK HM
    have hbe : (((m0 : Int) + (m1 : Int) + (m2 : Int) + (m3 : Int)) == (l : Int)) = true := by rw [beq_iff_eq]; omega
    have hq0 := cell_reg hblk 0 _ rfl
    have hq1 := cell_reg hblk 1 _ rfl
    have hq2 := cell_reg hblk 2 _ rfl
    have hq3 := cell_reg hblk 3 _ rfl
    refine wp_region_grow [(45, isC (.int .i64 (0))), (61, isC (.int .i64 (l : Nat))), (73, isC (.bool true))] [45, 61, 73]
      (by kernel_rfl) (by kernel_rfl) rfl (by kernel_rfl) (by kernel_rfl) ⟨isC_stable _, isC_stable _, isC_stable _, trivial⟩ ?_
    repeat (first
      | (refine lex_skip rfl ?_; simp only [Act.put, List.setIfInBounds_toArray, List.set_cons_zero, List.set_cons_succ])
      | (refine lex_quiet rfl rfl rfl (fun K hK => ?_); unfold Reg; go_big_quiet_op; refine hK _ ?_; clear hK K)
      | (refine lex_rel rfl rfl (fun w' hb hK => ?_) (fun v w' hb hv => ?_)
         · unfold grows
           go_simp
           first
             | (go_at_call 6
                exact call_isC (HX.out w' (HT.out.below (cR.trans (hb.mono cR.size)))))
             | (go_at_call 11
                exact call_isC (HZ.out w'))
             | (go_at_call 5
                exact call_isC (HA.out w'))
         obtain rfl := hv
         simp only [Act.put, List.setIfInBounds_toArray, List.set_cons_zero, List.set_cons_succ]))
    refine lex_nil (fun w9 hC9 _ => ?_)
    have hb9 := reg_iff.1 hC9
    go_wp2
    go_ret
    exact ⟨rfl, cR.trans (hb9.mono cR.size)⟩
  · rw [clip_none a n (by omega)] at HK
    generalize marks (runes a 0) 0 = m0 at *
    generalize marks (runes a 0) 1 = m1 at *
    generalize marks (runes a 0) 2 = m2 at *
    generalize marks (runes a 0) 3 = m3 at *
    generalize (runes a 0).length = l at *
    clear ha hcs
    go_enter Tryd.func4, Tryd.ntmps4
    go_upto_region 12 with (first
      | (go_at_call 8
         refine (H2.out w1).mono ?_
         rintro e w2 ⟨rfl, hb2⟩
         have c2 : Below w.heap.size w w2 := c1.trans (hb2.mono c1.size))
      | (go_at_call 8
         refine (H1.out w).mono ?_
         rintro e w1 ⟨rfl, c1⟩)
      | (go_at_call 9
         refine (HM.out w2).mono ?_
         rintro e w3 ⟨rfl, hb3⟩
         have c3 : Below w.heap.size w w3 := c2.trans (hb3.mono c2.size))
      | (go_at_call 10
         refine (HK.out _).mono ?_
         rintro e w4 ⟨rfl, hb4⟩
         have cR := after_alloc c3 hb4
         have hblk := blk_after hb4))
    clear hb4 c3 c2 c1 hb2 hb3 H1 H2 HK HM
    have hbe : (((m0 : Int) + (m1 : Int) + (m2 : Int) + (m3 : Int)) == (l : Int)) = true := by rw [beq_iff_eq]; omega
    have hq0 := cell_reg hblk 0 _ rfl
    have hq1 := cell_reg hblk 1 _ rfl
    have hq2 := cell_reg hblk 2 _ rfl
    have hq3 := cell_reg hblk 3 _ rfl
    refine wp_region_grow [(45, isC (.int .i64 (0))), (61, isC (.int .i64 (l : Nat))), (73, isC (.bool true))] [45, 61, 73]
      (by kernel_rfl) (by kernel_rfl) rfl (by kernel_rfl) (by kernel_rfl) ⟨isC_stable _, isC_stable _, isC_stable _, trivial⟩ ?_
    repeat (first
      | (refine lex_skip rfl ?_; simp only [Act.put, List.setIfInBounds_toArray, List.set_cons_zero, List.set_cons_succ])
      | (refine lex_quiet rfl rfl rfl (fun K hK => ?_); unfold Reg; go_big_quiet_op; refine hK _ ?_; clear hK K)
      | (refine lex_rel rfl rfl (fun w' hb hK => ?_) (fun v w' hb hv => ?_)
         · unfold grows
           go_simp
           first
             | (go_at_call 6
                exact call_isC (HX.out w' (HT.out.below (cR.trans (hb.mono cR.size)))))
             | (go_at_call 11
                exact call_isC (HZ.out w'))
             | (go_at_call 5
                exact call_isC (HA.out w'))
         obtain rfl := hv
         simp only [Act.put, List.setIfInBounds_toArray, List.set_cons_zero, List.set_cons_succ]))
    refine lex_nil (fun w9 hC9 _ => ?_)
    have hb9 := reg_iff.1 hC9
    go_wp2
    go_ret
    exact ⟨rfl, cR.trans (hb9.mono cR.size)⟩
set_option maxHeartbeats 4000000 in
set_option maxRecDepth 100000 in
theorem order_gt (a b : ByteArray) (n : Int) (w : World) (ha : fitL (runes a 0) = true) (hb : fitL (runes b 0) = true) (hT : Tabs w) (hn1 : -9223372036854775808 ≤ n) (hn2 : n ≤ 9223372036854775807)
    (hC : cmpL (runes a 0) (runes b 0) = 1) (hL : Op.bytesLess a.toList b.toList = false) (hG : (Op.bytesLess a.toList b.toList || a.toList == b.toList) = !true) :
    Calls Tryd.prog 4 #[.string a, .string b, .int .i64 n] w fun e w' => e = .returned (.bool true) ∧ Below w.heap.size w w' := by
  have hsa := fit_small a ha
  have hsb := fit_small b hb
  have HA := hide awake_any
  have H1 := hide (fun wx => fit_any a wx (by omega))
  have H2 := hide (fun wx => fit_any b wx (by omega))
  rw [ha] at H1
  rw [hb] at H2
  have HM := hide (fun wx => marks_any a wx (by omega))
  have HZ := hide (fun wx => size_any a wx (by omega))
  have HX := hide (fun wx h => compare_any a b wx (by omega) (by omega) h)
  rw [hC] at HX
  have hgt := run_gtr a b true hG
  have HT := hide hT
  have hsum := marks_all (runes a 0) (fit_kind _ ha)
  have hlen := runes_len a 0 (by omega)
  have hcs := clip_size a n
  have HK := hide (fun wx => clip_any a n wx (by omega) hn1 hn2)
  unfold four at HM
  clear hT hC hG hb
  by_cases hn : 1 ≤ n
  · have H3 := hide (fun wx => fit_any (clipS a n) wx (by omega))
    rw [clip_fit a n ha hn] at H3
    have HY := hide (fun wx h => compare_any (clipS a n) a wx (by omega) (by omega) h)
    have hlow := clip_low a n ha
    have hrange := cmpL_range (runes (clipS a n) 0) (runes a 0)
    generalize cmpL (runes (clipS a n) 0) (runes a 0) = D at *
    generalize marks (runes a 0) 0 = m0 at *
    generalize marks (runes a 0) 1 = m1 at *
    generalize marks (runes a 0) 2 = m2 at *
    generalize marks (runes a 0) 3 = m3 at *
    generalize (runes a 0).length = l at *
    clear ha
    generalize clipS a n = c at *
    have hd1 : -1 ≤ D := by omega
    have hd2 : D ≤ 0 := hlow
    clear hlow hrange
    go_enter Tryd.func4, Tryd.ntmps4
    go_upto_region 12 with (first
      | (go_at_call 8
         refine (H3.out w4).mono ?_
         rintro e w5 ⟨rfl, hb5⟩)
      | (go_at_call 8
         refine (H2.out w1).mono ?_
         rintro e w2 ⟨rfl, hb2⟩
         have c2 : Below w.heap.size w w2 := c1.trans (hb2.mono c1.size))
      | (go_at_call 8
         refine (H1.out w).mono ?_
         rintro e w1 ⟨rfl, c1⟩)
      | (go_at_call 9
         refine (HM.out w2).mono ?_
         rintro e w3 ⟨rfl, hb3⟩
         have c3 : Below w.heap.size w w3 := c2.trans (hb3.mono c2.size))
      | (go_at_call 10
         refine (HK.out _).mono ?_
         rintro e w4 ⟨rfl, hb4⟩
         have c4 := after_alloc c3 hb4
         have hblk4 := blk_after hb4)
      | (go_at_call 6
         refine (HY.out w5 (HT.out.below (c4.trans (hb5.mono c4.size)))).mono ?_
         rintro e w6 ⟨rfl, hb6⟩))
    have hblk := (hblk4.below hb5 hblk4.lt).below hb6 (Nat.lt_of_lt_of_le hblk4.lt hb5.size)
    have cR : Below w.heap.size w w6 := (c4.trans (hb5.mono c4.size)).trans (hb6.mono (Nat.le_trans c4.size hb5.size))
    clear hblk4 hb4 hb5 hb6 c4 c3 c2 c1 hb2 hb3 HY H1 H2 H3 HK HM
    have hbe : (((m0 : Int) + (m1 : Int) + (m2 : Int) + (m3 : Int)) == (l : Int)) = true := by rw [beq_iff_eq]; omega
    have hq0 := cell_reg hblk 0 _ rfl
    have hq1 := cell_reg hblk 1 _ rfl
    have hq2 := cell_reg hblk 2 _ rfl
    have hq3 := cell_reg hblk 3 _ rfl
    refine wp_region_grow [(45, isC (.int .i64 (1))), (61, isC (.int .i64 (l : Nat))), (73, isC (.bool true))] [45, 61, 73]
      (by kernel_rfl) (by kernel_rfl) rfl (by kernel_rfl) (by kernel_rfl) ⟨isC_stable _, isC_stable _, isC_stable _, trivial⟩ ?_
    repeat (first
      | (refine lex_skip rfl ?_; simp only [Act.put, List.setIfInBounds_toArray, List.set_cons_zero, List.set_cons_succ])
      | (refine lex_quiet rfl rfl rfl (fun K hK => ?_); unfold Reg; go_big_quiet_op; refine hK _ ?_; clear hK K)
      | (refine lex_rel rfl rfl (fun w' hb hK => ?_) (fun v w' hb hv => ?_)
         · unfold grows
           go_simp
           first
             | (go_at_call 6
                exact call_isC (HX.out w' (HT.out.below (cR.trans (hb.mono cR.size)))))
             | (go_at_call 11
                exact call_isC (HZ.out w'))
             | (go_at_call 5
                exact call_isC (HA.out w'))
         obtain rfl := hv
         simp only [Act.put, List.setIfInBounds_toArray, List.set_cons_zero, List.set_cons_succ]))
    refine lex_nil (fun w9 hC9 _ => ?_)
    have hb9 := reg_iff.1 hC9
    go_wp2
    go_ret
    exact ⟨rfl, cR.trans (hb9.mono cR.size)⟩
  · rw [clip_none a n (by omega)] at HK
    generalize marks (runes a 0) 0 = m0 at *
    generalize marks (runes a 0) 1 = m1 at *
    generalize marks (runes a 0) 2 = m2 at *
    generalize marks (runes a 0) 3 = m3 at *
    generalize (runes a 0).length = l at *
    clear ha hcs
    go_enter Tryd.func4, Tryd.ntmps4
    go_upto_region 12 with (first
      | (go_at_call 8
         refine (H2.out w1).mono ?_
         rintro e w2 ⟨rfl, hb2⟩
         have c2 : Below w.heap.size w w2 := c1.trans (hb2.mono c1.size))
      | (go_at_call 8
         refine (H1.out w).mono ?_
         rintro e w1 ⟨rfl, c1⟩)
      | (go_at_call 9
         refine (HM.out w2).mono ?_
         rintro e w3 ⟨rfl, hb3⟩
         have c3 : Below w.heap.size w w3 := c2.trans (hb3.mono c2.size))
      | (go_at_call 10
         refine (HK.out _).mono ?_
         rintro e w4 ⟨rfl, hb4⟩
         have cR := after_alloc c3 hb4
         have hblk := blk_after hb4))
    clear hb4 c3 c2 c1 hb2 hb3 H1 H2 HK HM
    have hbe : (((m0 : Int) + (m1 : Int) + (m2 : Int) + (m3 : Int)) == (l : Int)) = true := by rw [beq_iff_eq]; omega
    have hq0 := cell_reg hblk 0 _ rfl
    have hq1 := cell_reg hblk 1 _ rfl
    have hq2 := cell_reg hblk 2 _ rfl
    have hq3 := cell_reg hblk 3 _ rfl
    refine wp_region_grow [(45, isC (.int .i64 (1))), (61, isC (.int .i64 (l : Nat))), (73, isC (.bool true))] [45, 61, 73]
      (by kernel_rfl) (by kernel_rfl) rfl (by kernel_rfl) (by kernel_rfl) ⟨isC_stable _, isC_stable _, isC_stable _, trivial⟩ ?_
    repeat (first
      | (refine lex_skip rfl ?_; simp only [Act.put, List.setIfInBounds_toArray, List.set_cons_zero, List.set_cons_succ])
      | (refine lex_quiet rfl rfl rfl (fun K hK => ?_); unfold Reg; go_big_quiet_op; refine hK _ ?_; clear hK K)
      | (refine lex_rel rfl rfl (fun w' hb hK => ?_) (fun v w' hb hv => ?_)
         · unfold grows
           go_simp
           first
             | (go_at_call 6
                exact call_isC (HX.out w' (HT.out.below (cR.trans (hb.mono cR.size)))))
             | (go_at_call 11
                exact call_isC (HZ.out w'))
             | (go_at_call 5
                exact call_isC (HA.out w'))
         obtain rfl := hv
         simp only [Act.put, List.setIfInBounds_toArray, List.set_cons_zero, List.set_cons_succ]))
    refine lex_nil (fun w9 hC9 _ => ?_)
    have hb9 := reg_iff.1 hC9
    go_wp2
    go_ret
    exact ⟨rfl, cR.trans (hb9.mono cR.size)⟩
theorem order_any (a b : ByteArray) (n : Int) (w : World) (ha : a.size ≤ 9223372036854775807) (hb : b.size ≤ 9223372036854775807) (hT : Tabs w) (hn1 : -9223372036854775808 ≤ n) (hn2 : n ≤ 9223372036854775807) :
    Calls Tryd.prog 4 #[.string a, .string b, .int .i64 n] w fun e w' => e = .returned (.bool true) ∧ Below w.heap.size w w' := by
  by_cases h : fitL (runes a 0) = true ∧ fitL (runes b 0) = true
  · rcases names_stand a b h.1 h.2 with ⟨h1, h2, h3⟩ | ⟨h1, h2, h3⟩ | ⟨h1, h2, h3⟩
    · exact order_lt a b n w h.1 h.2 hT hn1 hn2 h1 h2 h3
    · exact order_eq a b n w h.1 h.2 hT hn1 hn2 h1 h2 h3
    · exact order_gt a b n w h.1 h.2 hT hn1 hn2 h1 h2 h3
  · exact order_skip a b n w h ha hb
end Go.Proofs.YtkkbccaggnodhaaDoor.Label
