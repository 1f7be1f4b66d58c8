/-
  Some texts of this claim, one behind the other: WirePutsW. What each proves, and its condition, stands at its head.
-/
import Derived.Test.YtkccnidbfdekdaaZ22
import Derived.Test.YtkccnidbfdekdaaZ15
import Derived.Test.YtkccnidbfdekdaaZ23
/-
  The walk of WirePuts. Condition: the slices read as releases and bytes; lengths as a row bounds them.
-/
namespace Go.Proofs.Ytkccnidbfdekdaa.Wire
open Go Go.RowKit Go.Lib Go.Proofs.Ytkccnidbfdekdaa.Span Go.Proofs.Ytkccnidbfdekdaa.Need Go.Proofs.Ytkccnidbfdekdaa.Mani Go.Proofs.Ytkccnidbfdekdaa.Grow
set_option linter.unusedVariables false
set_option maxHeartbeats 8000000 in
set_option maxRecDepth 100000 in
theorem puts_walk (nm : ByteArray) (l : List Rl) (A : Option Addr) (n c : Nat) (Ab : Option Addr) (nb cb : Nat) (b : List UInt8) (w : World) (h : RlOn w A n l) (hnm : nm.size ≤ maxLen) (hn : n ≤ maxLen) (hq : ∀ q ∈ l, q.2.length ≤ maxLen)
    (hr : Reads w w.heap.size 1 Ab nb (bcs b)) (hcb : nb ≤ cb) (hmb : cb ≤ maxLen) :
    Calls Try.prog 3 #[.agg #[.string nm, .slice A n c], .slice Ab nb cb] w (Tells w (.bool true)) := by
  have HL := hide (fun (wx : World) (hbx : Below w.heap.size w wx) => largeM_any nm l A n c wx (h.on hbx) hq hn hnm)
  have HW := hide (fun wx => awakeW_any wx)
  have h0 : Below w.heap.size w (w.alloc (.cells #[.string nm, .slice A n c] 24)) := alloc_b _
  have b0 := Blk.new w 24 #[.string nm, .slice A n c]
  unfold Tells at *
  clear hnm hn hq hcb hmb
  cases g1 : largeM nm l with
  | true =>
    rw [g1] at HL
    clear h hr b0
    go_enter Try.func3, Try.ntmps3
    go_wp2_with (first
      | (go_at_call 6
         refine (HW.out _).mono ?_
         rintro e w4 ⟨rfl, hb4⟩
         have hbw := hb3.trans (hb4.mono hb3.size))
      | (go_at_call 5
         refine (HL.out _ h0).mono ?_
         rintro e w3 ⟨rfl, hb3'⟩
         have hb3 := h0.trans (hb3'.mono h0.size)))
    go_ret
    exact ⟨rfl, hbw⟩
  | false =>
    rw [g1] at HL
    by_cases hn2 : 20000 < nb
    · clear h hr b0
      go_enter Try.func3, Try.ntmps3
      go_wp2_with (first
        | (go_at_call 6
           refine (HW.out _).mono ?_
           rintro e w4 ⟨rfl, hb4⟩
           have hbw := hb3.trans (hb4.mono hb3.size))
        | (go_at_call 5
           refine (HL.out _ h0).mono ?_
           rintro e w3 ⟨rfl, hb3'⟩
           have hb3 := h0.trans (hb3'.mono h0.size)))
      go_ret
      exact ⟨rfl, hbw⟩
    · obtain ⟨sa, fa⟩ := fineR_of g1
      obtain ⟨sr, fr⟩ := readB_fine b
      have HP := hide (fun (wx : World) (hbx : Below w.heap.size w wx) => putM_any nm l A n c wx (h.on hbx) fa (by omega))
      have HRP := hide (fun (wx : World) (hbx : Below w.heap.size w wx) => refPutM_any nm l A n c wx (h.on hbx) fa (by omega))
      have HR := hide (fun (wx : World) (hbx : Below w.heap.size w wx) => read_any Ab nb cb b wx ((hr.below hbx).more hbx.size))
      have HRR := hide (fun (wx : World) => refRead_any b wx)
      have HS : Hid (∀ wx A1 n1 c1 A2 n2 c2, RlOn wx A1 n1 (readB b).2 → RlOn wx A2 n2 (readB b).2 → Calls Try.prog 11 #[.agg #[.string (readB b).1, .slice A1 n1 c1], .agg #[.string (readB b).1, .slice A2 n2 c2]] wx fun e w' => e = .returned (.bool true) ∧ Below wx.heap.size wx w') := hide (fun wx A1 n1 c1 A2 n2 c2 h1 h2 => by
        have := refSameM_any (readB b).1 (readB b).1 (readB b).2 (readB b).2 A1 A2 n1 c1 n2 c2 wx h1 h2 fr fr
        rw [decide_eq_true (rfl : (readB b).1 = (readB b).1), decide_eq_true (rfl : (readB b).2 = (readB b).2)] at this
        exact this)
      unfold Tells ReadsB MakesB at *
      have hst := str_toList
      have Hr := hide hr
      clear h hr g1
      generalize putB nm l = PB at *
      generalize (readB b).1 = xn at *
      generalize (readB b).2 = xl at *
      generalize errB b = er at *
      go_enter Try.func3, Try.ntmps3
      go_upto_region 4 with (first
        | (go_at_call 5
           refine (HL.out _ h0).mono ?_
           rintro e w3 ⟨rfl, hb3'⟩
           have hb3 := h0.trans (hb3'.mono h0.size)
           have d0 := b0.below hb3' b0.lt)
        | (go_at_call 7
           refine (HR.out _ hb3).mono ?_
           rintro e w4 ⟨A4, n4, c4, rfl, hx4, hb4'⟩
           have hb4 := hb3.trans (hb4'.mono hb3.size)
           have d4 := d0.below hb4' d0.lt))
      obtain ⟨W, hW⟩ : ∃ W, W = w4.alloc (.cells #[.string xn, .slice A4 n4 c4] 24) := ⟨_, rfl⟩
      have hbW' : Below w4.heap.size w4 W := by rw [hW]; exact alloc_b _
      have hBx : Blk W w4.heap.size 24 #[.string xn, .slice A4 n4 c4] := by rw [hW]; exact Blk.new _ _ _
      have hBm := d4.below hbW' d4.lt
      have hbW := hb4.trans (hbW'.mono hb4.size)
      have hxW := hx4.on hbW'
      rw [← hW]
      have hcv := conv_of (c := cb) (Hr.out.below hbW)
      clear hW d4 d0 b0 hb4 hb3 hb3' hb4' h0 hx4 HL
      go_upto_region 5 with (first
        | (go_at_call 8
           refine (HRR.out _).mono ?_
           rintro e w5 ⟨A5, n5, c5, rfl, hx5, hb5'⟩
           have hb5 := hbW.trans (hb5'.mono hbW.size)))
      obtain ⟨V, hV⟩ : ∃ V, V = w5.alloc (.cells #[.string xn, .slice A5 n5 c5] 24) := ⟨_, rfl⟩
      have hbV' : Below w5.heap.size w5 V := by rw [hV]; exact alloc_b _
      have hBy : Blk V w5.heap.size 24 #[.string xn, .slice A5 n5 c5] := by rw [hV]; exact Blk.new _ _ _
      have hBx5 := (hBx.below hb5' hBx.lt).below hbV' (Nat.lt_of_lt_of_le hBx.lt hb5'.size)
      have hBm5 := (hBm.below hb5' hBm.lt).below hbV' (Nat.lt_of_lt_of_le hBm.lt hb5'.size)
      have hbV := hb5.trans (hbV'.mono hb5.size)
      have hxV := (hxW.on hb5').on hbV'
      have hyV := hx5.on hbV'
      rw [← hV]
      have hbVs := hbV.size
      clear hV hx5 hb5 hb5' hbV' hBx hBm hbW hxW hcv HR HRR
      have q1 := cell_reg_ ((hBm5.cell 0).trans rfl) hBm5.lt
      have q2 := cell_reg_ ((hBm5.cell 1).trans rfl) hBm5.lt
      have q3 := cell_reg_ ((hBx5.cell 0).trans rfl) hBx5.lt
      have q4 := cell_reg_ ((hBx5.cell 1).trans rfl) hBx5.lt
      have q5 := cell_reg_ ((hBy.cell 0).trans rfl) hBy.lt
      have q6 := cell_reg_ ((hBy.cell 1).trans rfl) hBy.lt
      have up := hide (fun (wx : World) (hx : Below V.heap.size V wx) => hbV.trans (hx.mono hbVs))
      have hee : (er == er) = true := beq_self_eq_true er
      refine wp_region_grow [(29, isB w.heap.size PB), (32, isC (.string (str PB))), (37, isC (.bool true)), (45, isC (.bool true))] [29, 32, 37, 45]
        (by kernel_rfl) (by kernel_rfl) rfl (by kernel_rfl) (by kernel_rfl) ⟨isB_stable _ _, isC_stable _, isC_stable _, isC_stable _, trivial⟩ ?_
      repeat (first
        | (refine lex_skip rfl ?_; simp only [Act.put, List.setIfInBounds_toArray, List.set_cons_zero, List.set_cons_succ])
        | (refine lex_quiet rfl rfl rfl (fun K hK => ?_); unfold Reg; go_big_quiet_op; refine hK _ ?_; clear hK K)
        | (refine lex_convB rfl rfl rfl rfl rfl rfl ?_; simp only [Act.put, List.setIfInBounds_toArray, List.set_cons_zero, List.set_cons_succ])
        | (refine lex_rel rfl rfl (fun w' hb9 hK => ?_) (fun v w' hb9 hv => ?_)
           · unfold grows
             go_simp
             first
               | (go_at_call 9; exact (HP.out w' (up.out _ hb9)).mono fun _ _ ⟨A, n, c, he, hn, hb1⟩ => ⟨_, he, hb1, A, n, c, rfl, hn.less (up.out _ hb9).size⟩)
               | (go_at_call 10; exact call_isC (HRP.out w' (up.out _ hb9)))
               | (go_at_call 11; exact call_isC (HS.out w' _ _ _ _ _ _ (hxV.on hb9) (hyV.on hb9)))
               | (go_at_call 6; exact call_isC (HW.out w'))
           first
             | (obtain rfl := hv
                simp only [Act.put, List.setIfInBounds_toArray, List.set_cons_zero, List.set_cons_succ])
             | (obtain ⟨A3, n3, c3, rfl, hn3⟩ := hv
                simp only [Act.put, List.setIfInBounds_toArray, List.set_cons_zero, List.set_cons_succ])))
      refine lex_nil (fun w9 hC9 _ => ?_)
      have hb9 := reg_iff.1 hC9
      clear hC9
      have hbw := up.out _ hb9
      clear q1 q2 q3 q4 q5 q6
      go_wp2
      go_ret
      exact ⟨rfl, hbw⟩
end Go.Proofs.Ytkccnidbfdekdaa.Wire
