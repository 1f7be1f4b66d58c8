/-
  The contracts of the program's and the document's own Text. Condition: the tables hold what the texts lay in them.
-/
import Derived.Test.YtgmkagddfbfolaaDoorVerAfter
import Derived.Test.YtgmkagddfbfolaaDoorGrowWords
namespace Go.Proofs.YtgmkagddfbfolaaDoor.Ver
open Go.RowKit Go.Lib Go.Proofs.YtgmkagddfbfolaaDoor.Grow
set_option linter.unusedVariables false
theorem refText_no (p : Int) (w : World) (h : ¬ (0 ≤ p ∧ p < 1000000000)) :
    Calls Tryd.prog 68 #[.int .i64 p] w fun e w' => e = .returned (.string (str [])) ∧ Below w.heap.size w w' := by
  have H := hide (fun wx => refFit_no p wx h)
  clear h
  go_enter Tryd.func68, Tryd.ntmps68
  go_wp2_with (first
    | (go_at_call 80
       refine (H.out _).mono ?_
       rintro e w1 ⟨rfl, rfl⟩))
  go_ret
  exact ⟨rfl, Below.refl _ _⟩
theorem txt_str (p : Nat) : str (decDigits (pA p)) ++ str [46] ++ str (decDigits (pB p)) ++ str [46] ++ str (decDigits (pC p)) = str (txt p) := by
  rw [str_append, str_append, str_append, str_append]
  congr 1
  simp [txt]
theorem dec_size {n : Nat} (h : n < 1000) : (str (decDigits n)).size ≤ 3 := by rw [str_size]; exact (dec_len h).2
set_option maxHeartbeats 800000 in
set_option maxRecDepth 100000 in
theorem refText_yes (p : Nat) (w : World) (h : p < 1000000000) :
    Calls Tryd.prog 68 #[.int .i64 (p : Int)] w fun e w' => e = .returned (.string (str (txt p))) ∧ Below w.heap.size w w' := by
  have H := hide (fun wx => refFit_yes p wx (by omega) (by omega))
  have HA := hide (fun wx => digits_any (pA p) wx (by unfold pA; omega))
  have HB := hide (fun wx => digits_any (pB p) wx (by unfold pB; omega))
  have HC := hide (fun wx => digits_any (pC p) wx (by unfold pC; omega))
  have sa := dec_size (n := pA p) (by unfold pA; omega)
  have sb := dec_size (n := pB p) (by unfold pB; omega)
  have sc := dec_size (n := pC p) (by unfold pC; omega)
  rw [show ((pA p : Nat) : Int) = (p : Int) / 1000000 by unfold pA; omega] at HA
  rw [show ((pB p : Nat) : Int) = (p : Int) / 1000 % 1000 by unfold pB; omega] at HB
  rw [show ((pC p : Nat) : Int) = (p : Int) % 1000 by unfold pC; omega] at HC
  have ht := hide (txt_str p)
  generalize str (decDigits (pA p)) = A at *
  generalize str (decDigits (pB p)) = B at *
  generalize str (decDigits (pC p)) = C at *
  go_enter Tryd.func68, Tryd.ntmps68
  go_wp2_with (first
    | (go_at_call 80
       refine (H.out _).mono ?_
       rintro e w1 ⟨rfl, rfl⟩)
    | (go_at_call 81
       refine (HC.out w2).mono ?_
       rintro e w3 ⟨rfl, hb3⟩
       have c3 : Below w.heap.size w w3 := c2.trans (hb3.mono c2.size))
    | (go_at_call 81
       refine (HB.out w1).mono ?_
       rintro e w2 ⟨rfl, hb2⟩
       have c2 : Below w.heap.size w w2 := hb1.trans (hb2.mono hb1.size))
    | (go_at_call 81
       refine (HA.out w).mono ?_
       rintro e w1 ⟨rfl, hb1⟩))
  go_ret
  exact ⟨end_s ht.out, c3⟩
theorem text_no (p : Int) (w : World) (h : ¬ (0 ≤ p ∧ p < 1000000000)) :
    Calls Tryd.prog 76 #[.int .i64 p] w fun e w' => e = .returned (.string (str [])) ∧ Below w.heap.size w w' := by
  have H := hide (fun wx => parts_no p wx h)
  unfold three at H
  clear h
  go_enter Tryd.func76, Tryd.ntmps76
  go_wp2_with (first
    | (go_at_call 83
       refine (H.out _).mono ?_
       rintro e w1 ⟨rfl, hb1⟩))
  go_ret
  exact ⟨rfl, hb1.alloc hb1.size _⟩
theorem cell_at_reg {w : World} {a : Addr} {v : Value} (h : w.cell? a = some v) (d : Nat) (os : Array Obj) : (Sort.grow (redrawn w d) os).cell? a = some v := cell_regrown h d os
set_option maxHeartbeats 1600000 in
set_option maxRecDepth 100000 in
theorem text_yes (p : Nat) (w : World) (h : p < 1000000000) (hT : Tabs w) :
    Calls Tryd.prog 76 #[.int .i64 (p : Int)] w fun e w' => e = .returned (.string (str (txt p))) ∧ Below w.heap.size w w' := by
  have H := hide (fun wx hx => parts_yes p wx h hx)
  have HA := hide (fun wx hx => itoa_any (pA p) wx (by unfold pA; omega) hx)
  have HB := hide (fun wx hx => itoa_any (pB p) wx (by unfold pB; omega) hx)
  have HC := hide (fun wx hx => itoa_any (pC p) wx (by unfold pC; omega) hx)
  have sa := dec_size (n := pA p) (by unfold pA; omega)
  have sb := dec_size (n := pB p) (by unfold pB; omega)
  have sc := dec_size (n := pC p) (by unfold pC; omega)
  have ht := hide (txt_str p)
  have hAB : ∀ x, x = pA p → (x : Int) = (pA p : Nat) := fun _ h => by rw [h]
  unfold partsOf three at H
  generalize str (decDigits (pA p)) = A at *
  generalize str (decDigits (pB p)) = B at *
  generalize str (decDigits (pC p)) = C at *
  generalize ((pA p : Nat) : Int) = a at *
  generalize ((pB p : Nat) : Int) = b at *
  generalize ((pC p : Nat) : Int) = c at *
  clear hAB
  have HT := hide hT
  clear hT
  go_enter Tryd.func76, Tryd.ntmps76
  go_upto_region 4 with (first
    | (go_at_call 83
       refine (H.out _ HT.out).mono ?_
       rintro e w1 ⟨rfl, hb1⟩))
  have hb2 := hb1.alloc hb1.size (.cells #[.int .i64 a, .int .i64 b, .int .i64 c] 80)
  have hB := Blk.new w1 80 #[.int .i64 a, .int .i64 b, .int .i64 c]
  have hc0 := cell_at_reg (hB.cell 0)
  have hc1 := cell_at_reg (hB.cell 1)
  have hc2 := cell_at_reg (hB.cell 2)
  refine wp_region_grow [(14, isC (.string A)), (18, isC (.string B)), (23, isC (.string C))] [14, 18, 23]
    (by kernel_rfl) (by kernel_rfl) rfl (by kernel_rfl) (by kernel_rfl) ⟨isC_stable _, isC_stable _, isC_stable _, trivial⟩ ?_
  repeat (first
    | (refine lex_skip rfl ?_; simp only [Act.put, List.setIfInBounds_toArray, List.set_cons_zero, List.set_cons_succ])
    | (refine lex_quiet rfl rfl rfl (fun K hK => ?_); unfold Reg; go_big_quiet_op; refine hK _ ?_; clear hK K)
    | (refine lex_rel rfl rfl (fun w' hb hK => ?_) (fun v w' hb hv => ?_)
       · unfold grows
         go_simp
         first
           | (go_at_call 84
              exact call_isC (HA.out w' (HT.out.below (hb2.trans (hb.mono hb2.size)))))
           | (go_at_call 84
              exact call_isC (HB.out w' (HT.out.below (hb2.trans (hb.mono hb2.size)))))
           | (go_at_call 84
              exact call_isC (HC.out w' (HT.out.below (hb2.trans (hb.mono hb2.size)))))
       obtain rfl := hv
       simp only [Act.put, List.setIfInBounds_toArray, List.set_cons_zero, List.set_cons_succ]))
  refine lex_nil (fun w9 hC9 _ => ?_)
  have hb9 := reg_iff.1 hC9
  go_wp2
  go_ret
  exact ⟨end_s ht.out, hb2.trans (hb9.mono hb2.size)⟩
end Go.Proofs.YtgmkagddfbfolaaDoor.Ver
